package auto_test

import (
	"slices"
	"strings"
	"testing"

	"heckle/api"
	"heckle/auto"
	"heckle/rules"
	"heckle/rx"
)

// parsed is the specification of that text.
func parsed(t *testing.T, text string) api.Spec {
	t.Helper()
	s, e, at := rules.Parse(text)
	if e != api.OK {
		t.Fatalf("the specification %q has the error %d at %d", text, e, at)
	}
	return s
}

// ruled is the specification of these rules, parted by semicolons, with the conditions S and X (which is Exclusive).
func ruled(t *testing.T, rules string) api.Spec {
	t.Helper()
	return parsed(t, "%s S\n%x X\n%%\n"+strings.ReplaceAll(rules, "; ", "\n")+"\n")
}

// built is Build for a specification that has an automaton.
func built(t *testing.T, s api.Spec) api.Auto {
	t.Helper()
	a, e := auto.Build(s)
	if e != api.OK {
		t.Fatalf("K1: Build(%v): error %d", s, e)
	}
	return a
}

// set is that of these bytes.
func set(list ...int) api.Set {
	var s api.Set
	for _, b := range list {
		s[b/64] |= 1 << (b % 64)
	}
	return s
}

// in builds Bytes of single bytes.
func in(list ...int) api.Rx { return api.Rx{Kind: api.Bytes, Set: set(list...)} }

func empty() api.Rx { return api.Rx{Kind: api.Empty} }

func cat(kids ...api.Rx) api.Rx { return api.Rx{Kind: api.Cat, Kids: kids} }

func alt(kids ...api.Rx) api.Rx { return api.Rx{Kind: api.Alt, Kids: kids} }

func rep(x api.Rx, lo, hi int) api.Rx {
	return api.Rx{Kind: api.Rep, Lo: lo, Hi: hi, Kids: []api.Rx{x}}
}

// nest encloses x in n patterns.
func nest(x api.Rx, n int) api.Rx {
	for range n {
		x = rep(x, 0, 1)
	}
	return x
}

// loop is a pattern that is its own and only kid.
func loop(kind int) api.Rx {
	kids := make([]api.Rx, 1)
	kids[0] = api.Rx{Kind: kind, Hi: 1, Kids: kids}
	return kids[0]
}

// sized is a pattern of that many places, up to 200.
func sized(n int) api.Rx {
	if n == 1 {
		return in('a')
	}
	return cat(slices.Repeat([]api.Rx{in('a')}, n)...)
}

// plain is the specification of rules with such patterns and trails, in turn; no kind means no Trail.
func plain(pairs ...[2]api.Rx) api.Spec {
	s := api.Spec{Conds: []api.Cond{{Name: "INITIAL"}}}
	for _, p := range pairs {
		s.Rules = append(s.Rules, api.Rule{Rx: p[0], Trail: p[1], Act: api.Emit})
	}
	return s
}

// dice are numbers that are the same in each run.
type dice uint64

func (d *dice) roll(n int) int {
	*d ^= *d << 13
	*d ^= *d >> 7
	*d ^= *d << 17
	return int(uint64(*d) >> 11 % uint64(n))
}

// pattern makes the text of a pattern of a, b and the line feed.
func (d *dice) pattern(levels int) string {
	if levels == 0 {
		return []string{"a", "b", "a", "b", "[ab]", "()", `\n`, `[a\n]`}[d.roll(8)]
	}
	one := d.pattern(levels - 1)
	switch d.roll(4) {
	case 0:
		return one + d.pattern(d.roll(levels))
	case 1:
		return "(" + one + "|" + d.pattern(d.roll(levels)) + ")"
	case 2:
		return d.pattern(d.roll(levels)) + one
	}
	quantifiers := []string{"*", "+", "?", "{2}", "{2,}", "{0,2}", "{1,3}"}
	return "(" + one + ")" + quantifiers[d.roll(len(quantifiers))]
}

// rule makes the line of a rule.
func (d *dice) rule() string {
	line := []string{"", "", "<*>", "<S>", "<X>", "<INITIAL>", "<INITIAL,X>", "<S,X>"}[d.roll(8)]
	if d.roll(7) == 0 {
		return line + "<<EOF>> emit\n"
	}
	if d.roll(4) == 0 {
		line += "^"
	}
	line += d.pattern(d.roll(5))
	if d.roll(2) == 0 {
		line += "/" + d.pattern(d.roll(4))
	}
	return line + []string{" emit\n", " skip\n", " begin S\n"}[d.roll(3)]
}

// samples are n valid specifications, of at most 600 places.
func samples(n int) []api.Spec {
	d := dice(88172645463325252)
	var l []api.Spec
	for len(l) < n {
		text := "%s S\n%x X\n%%\n"
		for range d.roll(8) {
			text += d.rule()
		}
		if s, e, _ := rules.Parse(text); e == api.OK && size(s) <= 600 {
			l = append(l, s)
		}
	}
	return l
}

// size is the number of places of all rules.
func size(s api.Spec) int {
	n := 0
	for _, r := range s.Rules {
		n += rx.Size(r.Rx) + rx.Size(r.Trail)
	}
	return n
}

// list makes an ascending list of places, of n that there are, of which each is one with the given chance in 100.
func (d *dice) list(n, chance int) []int {
	var l []int
	for p := range n {
		if d.roll(100) < chance {
			l = append(l, p)
		}
	}
	return l
}

// auto makes a valid automaton of n places that read a, b or both; no rules need to have it.
func (d *dice) auto(n, chance int) api.Auto {
	var a api.Auto
	for range n {
		a.Sets = append(a.Sets, []api.Set{set('a'), set('b'), set('a', 'b'), set(0, 255)}[d.roll(4)])
		a.Owner = append(a.Owner, d.roll(40))
		a.Follow = append(a.Follow, d.list(n, chance))
		a.Ends = append(a.Ends, d.roll(3) == 0)
	}
	for range d.roll(17) {
		a.Starts = append(a.Starts, d.list(n, 50))
	}
	return a
}

// text makes a text of a and b, line feeds, and bytes that few places read.
func (d *dice) text(n int) string {
	text := make([]byte, n)
	for i := range text {
		text[i] = "aaaaaabbbbbb\n\nc\xff"[d.roll(16)]
	}
	return string(text)
}

// texts are all texts of the given bytes, up to the given length.
func texts(bytes string, most int) []string {
	l := []string{""}
	for i := 0; len(l[i]) < most; i++ {
		for _, b := range bytes {
			l = append(l, l[i]+string(b))
		}
	}
	return l
}

// wrongPatterns are neither valid nor no patterns.
func wrongPatterns() map[string]api.Rx {
	return map[string]api.Rx{
		"kind 6":           {Kind: 6},
		"kind -1":          {Kind: -1},
		"kind 0 with kids": {Kids: []api.Rx{in('a')}},
		"no bytes":         {Kind: api.Bytes},
		"cat of one":       cat(in('a')),
		"alt in alt":       alt(in('a'), alt(in('a'), in('b'))),
		"rep of 0 to 0":    rep(in('a'), 0, 0),
		"rep to 21":        rep(in('a'), 0, 21),
		"21 levels":        nest(in('a'), 20),
		"Size 201":         sized(201),
		"deep":             nest(in('a'), 300000),
		"endless":          loop(api.Rep),
		"endless Cat":      loop(api.Cat),
	}
}

// wrongSpecs are not valid, each in one point.
func wrongSpecs(t *testing.T) map[string]api.Spec {
	t.Helper()
	changes := map[string]func(s *api.Spec){
		"no conditions":    func(s *api.Spec) { s.Conds = nil },
		"9 conditions":     func(s *api.Spec) { s.Conds = append(s.Conds, conds("A", "B", "C", "D", "E", "F")...) },
		"first name":       func(s *api.Spec) { s.Conds[0].Name = "S0" },
		"first exclusive":  func(s *api.Spec) { s.Conds[0].Exclusive = true },
		"name twice":       func(s *api.Spec) { s.Conds[2].Name = "S" },
		"41 rules":         func(s *api.Spec) { s.Rules = slices.Repeat(s.Rules[:1], 41) },
		"Act 0":            func(s *api.Spec) { s.Rules[1].Act = 0 },
		"To of an Emit":    func(s *api.Spec) { s.Rules[0].To = 1 },
		"To 3":             func(s *api.Spec) { s.Rules[1].To = 3 },
		"Conds beside All": func(s *api.Spec) { s.Rules[0].All, s.Rules[0].Conds = true, []int{0} },
		"Conds turned":     func(s *api.Spec) { s.Rules[0].Conds = []int{1, 0} },
		"Conds beyond":     func(s *api.Spec) { s.Rules[0].Conds = []int{0, 3} },
		"Eof and Bol":      func(s *api.Spec) { s.Rules[2].Bol = true },
		"Eof and Rx":       func(s *api.Spec) { s.Rules[2].Rx = in('a') },
		"Eof and Trail":    func(s *api.Spec) { s.Rules[2].Trail = in('a') },
		"no Rx":            func(s *api.Spec) { s.Rules[0].Rx = api.Rx{} },
		"too long, too":    func(s *api.Spec) { s.Rules = append(slices.Repeat(plain([2]api.Rx{sized(200)}).Rules, 4), api.Rule{}) },
	}
	l := map[string]api.Spec{"zero": {}}
	for name, change := range changes {
		s := ruled(t, "a emit; b begin S; <<EOF>> emit")
		change(&s)
		l[name] = s
	}
	for name, x := range wrongPatterns() {
		l["Rx: "+name] = plain([2]api.Rx{in('a')}, [2]api.Rx{x})
		l["Trail: "+name] = plain([2]api.Rx{in('a')}, [2]api.Rx{in('a'), x})
	}
	return l
}

func conds(names ...string) []api.Cond {
	var l []api.Cond
	for _, name := range names {
		l = append(l, api.Cond{Name: name})
	}
	return l
}
