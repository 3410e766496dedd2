package model_test

import (
	"slices"
	"strings"
	"testing"

	"heckle/api"
	"heckle/rules"
	"heckle/spec"
)

// in builds Bytes of single bytes.
func in(list ...int) api.Rx {
	var s api.Set
	for _, b := range list {
		s[b/64] |= 1 << (b % 64)
	}
	return api.Rx{Kind: api.Bytes, Set: s}
}

func empty() api.Rx { return api.Rx{Kind: api.Empty} }

func cat(kids ...api.Rx) api.Rx { return api.Rx{Kind: api.Cat, Kids: kids} }

func alt(kids ...api.Rx) api.Rx { return api.Rx{Kind: api.Alt, Kids: kids} }

func rep(x api.Rx, lo, hi int) api.Rx {
	return api.Rx{Kind: api.Rep, Lo: lo, Hi: hi, Kids: []api.Rx{x}}
}

// nest encloses x in n patterns.
func nest(x api.Rx, n int) api.Rx {
	for range n {
		x = rep(x, 0, 1)
	}
	return x
}

// loop is a pattern that is its own and only kid.
func loop(kind int) api.Rx {
	kids := make([]api.Rx, 1)
	kids[0] = api.Rx{Kind: kind, Hi: 1, Kids: kids}
	return kids[0]
}

// parsed is the specification of that text.
func parsed(t *testing.T, text string) api.Spec {
	t.Helper()
	s, e, at := rules.Parse(text)
	if e != api.OK {
		t.Fatalf("the specification %q has the error %d at %d", text, e, at)
	}
	return s
}

// ruled is the specification of these rules, parted by semicolons, with the conditions S and X (which is Exclusive).
func ruled(t *testing.T, rules string) api.Spec {
	t.Helper()
	return parsed(t, "%s S\n%x X\n%%\n"+strings.ReplaceAll(rules, "; ", "\n")+"\n")
}

// only is the rule of a specification that has no other.
func only(t *testing.T, rule string) api.Rule {
	t.Helper()
	return ruled(t, rule).Rules[0]
}

// dice are numbers that are the same in each run.
type dice uint64

func (d *dice) roll(n int) int {
	*d ^= *d << 13
	*d ^= *d >> 7
	*d ^= *d << 17
	return int(uint64(*d) >> 11 % uint64(n))
}

// pattern makes a valid pattern of a, b and the line feed, whose kind isn't the one that is barred.
func (d *dice) pattern(levels, barred int) api.Rx {
	kind := []int{api.Empty, api.Bytes, api.Bytes, api.Cat, api.Cat, api.Alt, api.Rep, api.Rep}[d.roll(8)]
	if levels == 1 {
		kind = api.Bytes
	}
	switch {
	case kind == barred || kind == api.Bytes:
		return in([][]int{{'a'}, {'a'}, {'b'}, {'b'}, {'a', 'b'}, {'a', 'b', '\n'}, {'\n'}}[d.roll(7)]...)
	case kind == api.Empty:
		return empty()
	case kind == api.Rep:
		lo := d.roll(3)
		return rep(d.pattern(levels-1, 0), lo, []int{-1, -1, max(lo, 1), lo + 2}[d.roll(4)])
	}
	x := api.Rx{Kind: kind}
	for range 2 + d.roll(2) {
		x.Kids = append(x.Kids, d.pattern(levels-1, kind))
	}
	return x
}

func (d *dice) rule(conds int) api.Rule {
	r := api.Rule{All: d.roll(4) == 0, Eof: d.roll(6) == 0, Act: api.Emit + d.roll(3)}
	for c := 0; c < conds && !r.All; c++ {
		if d.roll(4) == 0 {
			r.Conds = append(r.Conds, c)
		}
	}
	if r.Act == api.Begin {
		r.To = d.roll(conds)
	}
	if !r.Eof {
		r.Bol, r.Rx = d.roll(4) == 0, d.pattern(1+d.roll(3), 0)
		if d.roll(2) == 0 {
			r.Trail = d.pattern(1+d.roll(3), 0)
		}
	}
	return r
}

func (d *dice) spec() api.Spec {
	s := api.Spec{Default: d.roll(4) > 0, Conds: []api.Cond{{Name: "INITIAL"}, {Name: "S"}, {Name: "X", Exclusive: true}}}
	for range 1 + d.roll(6) {
		s.Rules = append(s.Rules, d.rule(len(s.Conds)))
	}
	return s
}

// text makes a text of a and b, line feeds, and bytes that no pattern contains.
func (d *dice) text(n int) string {
	text := make([]byte, n)
	for i := range text {
		text[i] = "aaaabbb\n\nc"[d.roll(10)]
	}
	return string(text)
}

// samples are valid specifications.
func samples(t *testing.T, n int) []api.Spec {
	t.Helper()
	d := dice(88172645463325252)
	var l []api.Spec
	for range n {
		s := d.spec()
		if !spec.Right(s) {
			t.Fatalf("the sample %v is not valid", s)
		}
		l = append(l, s)
	}
	return l
}

// texts are all texts of the given bytes, up to the given length.
func texts(bytes string, most int) []string {
	l := []string{""}
	for i := 0; len(l[i]) < most; i++ {
		for _, b := range bytes {
			l = append(l, l[i]+string(b))
		}
	}
	return l
}

// wrongPatterns are not valid.
func wrongPatterns() map[string]api.Rx {
	return map[string]api.Rx{
		"zero":          {},
		"kind 6":        {Kind: 6},
		"kind -1":       {Kind: -1},
		"no bytes":      {Kind: api.Bytes},
		"cat of one":    cat(in('a')),
		"alt in alt":    alt(in('a'), alt(in('a'), in('b'))),
		"rep of 0 to 0": rep(in('a'), 0, 0),
		"rep to 21":     rep(in('a'), 0, 21),
		"21 levels":     nest(in('a'), 20),
		"deep":          nest(in('a'), 300000),
		"Size 201":      alt(rep(rep(in('a'), 10, 10), 20, 20), in('a')),
		"endless":       loop(api.Rep),
		"endless Cat":   loop(api.Cat),
	}
}

// wrongSpecs are not valid, each in one point.
func wrongSpecs(t *testing.T) map[string]api.Spec {
	t.Helper()
	changes := map[string]func(s *api.Spec){
		"no conditions":      func(s *api.Spec) { s.Conds = nil },
		"first name":         func(s *api.Spec) { s.Conds[0].Name = "S0" },
		"first exclusive":    func(s *api.Spec) { s.Conds[0].Exclusive = true },
		"name twice":         func(s *api.Spec) { s.Conds[2].Name = "S" },
		"41 rules":           func(s *api.Spec) { s.Rules = slices.Repeat(s.Rules[:1], 41) },
		"Act 0":              func(s *api.Spec) { s.Rules[1].Act = 0 },
		"Act 4":              func(s *api.Spec) { s.Rules[1].Act = 4 },
		"To of an Emit":      func(s *api.Spec) { s.Rules[0].To = 1 },
		"To 3":               func(s *api.Spec) { s.Rules[1].To = 3 },
		"To -1":              func(s *api.Spec) { s.Rules[1].To = -1 },
		"Conds beside All":   func(s *api.Spec) { s.Rules[0].All, s.Rules[0].Conds = true, []int{0} },
		"Conds turned":       func(s *api.Spec) { s.Rules[0].Conds = []int{1, 0} },
		"Conds beyond":       func(s *api.Spec) { s.Rules[0].Conds = []int{0, 3} },
		"Eof and Bol":        func(s *api.Spec) { s.Rules[2].Bol = true },
		"Eof and Rx":         func(s *api.Spec) { s.Rules[2].Rx = in('a') },
		"Trail with no kind": func(s *api.Spec) { s.Rules[0].Trail.Hi = 1 },
	}
	l := map[string]api.Spec{"zero": {}}
	for name, change := range changes {
		s := ruled(t, "a emit; b begin S; <<EOF>> emit")
		change(&s)
		l[name] = s
	}
	for name, x := range wrongPatterns() {
		s := ruled(t, "a emit; b begin S; <<EOF>> emit")
		s.Rules[0].Rx = x
		l["Rx: "+name] = s
		if x.Kind != 0 {
			s := ruled(t, "a emit; b begin S; <<EOF>> emit")
			s.Rules[0].Trail = x
			l["Trail: "+name] = s
		}
	}
	return l
}

// cloneRx copies a pattern with all memory that it has.
func cloneRx(x api.Rx) api.Rx {
	kids := x.Kids[:cap(x.Kids)]
	x.Kids = nil
	for _, kid := range kids {
		x.Kids = append(x.Kids, cloneRx(kid))
	}
	return x
}

// clone copies a specification with all memory that it has.
func clone(s api.Spec) api.Spec {
	s.Conds = slices.Clone(s.Conds[:cap(s.Conds)])
	s.Rules = slices.Clone(s.Rules[:cap(s.Rules)])
	for i, r := range s.Rules {
		s.Rules[i].Conds = slices.Clone(r.Conds[:cap(r.Conds)])
		s.Rules[i].Rx, s.Rules[i].Trail = cloneRx(r.Rx), cloneRx(r.Trail)
	}
	return s
}
