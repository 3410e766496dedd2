package spec_test

import (
	"fmt"
	"math"
	"reflect"
	"slices"
	"strings"
	"testing"

	"heckle/api"
	"heckle/read"
	"heckle/rx"
	"heckle/spec"
)

// in builds Bytes of single bytes.
func in(list ...int) api.Rx {
	var s api.Set
	for _, b := range list {
		s[b/64] |= 1 << (b % 64)
	}
	return api.Rx{Kind: api.Bytes, Set: s}
}

func empty() api.Rx { return api.Rx{Kind: api.Empty} }

func cat(kids ...api.Rx) api.Rx { return api.Rx{Kind: api.Cat, Kids: kids} }

func alt(kids ...api.Rx) api.Rx { return api.Rx{Kind: api.Alt, Kids: kids} }

func rep(x api.Rx, lo, hi int) api.Rx {
	return api.Rx{Kind: api.Rep, Lo: lo, Hi: hi, Kids: []api.Rx{x}}
}

func many(x api.Rx, n int) []api.Rx { return slices.Repeat([]api.Rx{x}, n) }

// nest encloses x in n patterns.
func nest(x api.Rx, n int) api.Rx {
	for range n {
		x = rep(x, 0, 1)
	}
	return x
}

// loop is a pattern that is its own and only kid.
func loop(kind int) api.Rx {
	kids := make([]api.Rx, 1)
	kids[0] = api.Rx{Kind: kind, Hi: 1, Kids: kids}
	return kids[0]
}

// conds are INITIAL and further conditions; a name behind a ! is that of an Exclusive one.
func conds(names ...string) []api.Cond {
	l := []api.Cond{{Name: "INITIAL"}}
	for _, name := range names {
		bare := strings.TrimPrefix(name, "!")
		l = append(l, api.Cond{Name: bare, Exclusive: bare != name})
	}
	return l
}

func a() api.Rx { return in('a') }

// valid is a specification with a rule of each sort.
func valid() api.Spec {
	return api.Spec{Conds: conds("S", "!X", "_9"), Rules: []api.Rule{
		{Rx: a(), Act: api.Emit},
		{All: true, Bol: true, Rx: alt(a(), in('b')), Act: api.Skip},
		{Conds: []int{0, 2, 3}, Rx: cat(a(), in(' ')), Trail: in('\n'), Act: api.Begin, To: 2},
		{Conds: []int{1}, Eof: true, Act: api.Begin},
		{All: true, Eof: true, Act: api.Skip},
		{Eof: true, Act: api.Emit},
		{Conds: []int{2}, Bol: true, Rx: rep(in('/', '<'), 1, -1), Trail: empty(), Act: api.Begin, To: 3},
		{Rx: empty(), Trail: alt(in('$'), empty()), Act: api.Emit},
	}}
}

const validText = `%s S
%x X
%s _9
%nodefault
%%
a emit
<*>^a|b skip
<INITIAL,X,_9>a\x20/\x0a begin X
<S><<EOF>> begin INITIAL
<*><<EOF>> skip
<<EOF>> emit
<X>^[\x2f\x3c]{1,}/() begin _9
()/\x24|() emit
`

// cloneRx copies a pattern with all memory that it has.
func cloneRx(x api.Rx) api.Rx {
	x.Kids = slices.Clone(x.Kids)
	for i, kid := range x.Kids {
		x.Kids[i] = cloneRx(kid)
	}
	return x
}

// clone copies a specification with all memory that it has.
func clone(s api.Spec) api.Spec {
	s.Conds, s.Rules = slices.Clone(s.Conds), slices.Clone(s.Rules)
	for i, r := range s.Rules {
		s.Rules[i].Conds = slices.Clone(r.Conds)
		s.Rules[i].Rx, s.Rules[i].Trail = cloneRx(r.Rx), cloneRx(r.Trail)
	}
	return s
}

// dice are numbers that are the same in each run.
type dice uint64

func (d *dice) roll(n int) int {
	*d ^= *d << 13
	*d ^= *d >> 7
	*d ^= *d << 17
	return int(uint64(*d) >> 11 % uint64(n))
}

func (d *dice) toss() bool { return d.roll(2) == 0 }

// pattern makes a valid pattern of at most the given levels, whose kind isn't the one that is barred.
func (d *dice) pattern(levels, barred int) api.Rx {
	kind := api.Empty + d.roll(5)
	if levels == 1 {
		kind = api.Bytes
	}
	switch {
	case kind == barred || kind == api.Bytes:
		return in(d.roll(256), d.roll(256))
	case kind == api.Empty:
		return empty()
	case kind == api.Rep:
		lo := d.roll(3)
		return rep(d.pattern(levels-1, 0), lo, [3]int{-1, max(lo, 1), lo + 2}[d.roll(3)])
	}
	x := api.Rx{Kind: kind}
	for range 2 + d.roll(2) {
		x.Kids = append(x.Kids, d.pattern(levels-1, kind))
	}
	return x
}

func (d *dice) rule(conds int) api.Rule {
	r := api.Rule{All: d.roll(4) == 0, Eof: d.roll(4) == 0, Act: api.Emit + d.roll(3)}
	for c := 0; c < conds && !r.All; c++ {
		if d.roll(3) == 0 {
			r.Conds = append(r.Conds, c)
		}
	}
	if r.Act == api.Begin {
		r.To = d.roll(conds)
	}
	if !r.Eof {
		r.Bol, r.Rx = d.toss(), d.pattern(1+d.roll(3), 0)
		if d.toss() {
			r.Trail = d.pattern(1+d.roll(3), 0)
		}
	}
	return r
}

// spec makes a valid specification.
func (d *dice) spec() api.Spec {
	s := api.Spec{Conds: conds(), Default: d.toss()}
	names := []string{"S", "s", "X", "EOF", "INITIAL_", "initial", "_", "nodefault", "abcdefghijkl", "x9"}
	for range d.roll(api.MaxConds) {
		i := d.roll(len(names))
		s.Conds = append(s.Conds, api.Cond{Name: names[i], Exclusive: d.toss()})
		names = slices.Delete(names, i, i+1)
	}
	for range d.roll(6) {
		s.Rules = append(s.Rules, d.rule(len(s.Conds)))
	}
	return s
}

// samples are valid specifications.
func samples() []api.Spec {
	d := dice(88172645463325252)
	l := []api.Spec{valid(), {Conds: conds()}, {Conds: conds(), Default: true}}
	for range 3000 {
		l = append(l, d.spec())
	}
	return l
}

// holdsRight holds Right, and the error of Print, against what they must be.
func holdsRight(t *testing.T, name string, s api.Spec, want bool) {
	t.Helper()
	if got := spec.Right(s); got != want {
		t.Errorf("F1: %s: Right is %v", name, got)
	}
	text, e := spec.Print(s)
	if want && (text == "" || e != api.OK) || !want && (text != "" || e != api.ErrArg) {
		t.Errorf("F3: %s: Print returns %.50q and %d", name, text, e)
	}
}

func TestF1ValidSpecs(t *testing.T) {
	for i, s := range samples() {
		holdsRight(t, fmt.Sprint("sample ", i), s, true)
	}
}

func TestF1Conditions(t *testing.T) {
	eight := conds("a", "b", "c", "d", "!e", "f", "g")
	for i, c := range []struct {
		conds []api.Cond
		want  bool
	}{
		{nil, false},
		{[]api.Cond{}, false},
		{[]api.Cond{{}}, false},
		{[]api.Cond{{Exclusive: true}}, false},
		{conds(), true},
		{[]api.Cond{{Name: "INITIAL", Exclusive: true}}, false},
		{[]api.Cond{{Name: "S"}}, false},
		{[]api.Cond{{Name: "initial"}}, false},
		{[]api.Cond{{Name: "INITIAL "}}, false},
		{[]api.Cond{{Name: "S"}, {Name: "INITIAL"}}, false},
		{eight, true},
		{append(slices.Clone(eight), api.Cond{Name: "h"}), false},
		{slices.Repeat(conds(), 1000000), false},
		{conds("INITIAL"), false},
		{conds("!INITIAL"), false},
		{conds("initial", "INITIALS"), true},
		{conds("S", "S"), false},
		{conds("S", "!S"), false},
		{conds("!X", "!X"), false},
		{conds("S", "T", "U", "V", "W", "Y", "S"), false},
		{conds("S", "s"), true},
		{conds(""), false},
		{conds("1"), false},
		{conds("_"), true},
		{conds("a1"), true},
		{conds("a-b"), false},
		{conds("a b"), false},
		{conds("*"), false},
		{conds("S\n"), false},
		{conds("\x00"), false},
		{conds("ä"), false},
		{conds("abcdefghijkl"), true},
		{conds("abcdefghijklm"), false},
		{conds(strings.Repeat("a", 1000000)), false},
		{conds("S", "1"), false},
	} {
		holdsRight(t, fmt.Sprint("conditions ", i), api.Spec{Conds: c.conds}, c.want)
	}
}

func TestF1NumberOfRules(t *testing.T) {
	rule := api.Rule{Rx: a(), Act: api.Emit}
	for n, want := range map[int]bool{0: true, 1: true, 39: true, 40: true, 41: false, 100000: false} {
		s := api.Spec{Conds: conds(), Rules: slices.Repeat([]api.Rule{rule}, n)}
		holdsRight(t, fmt.Sprint("rules ", n), s, want)
	}
}

// holdsRule holds one rule, beside four conditions, against what Right must say of it: by itself,
// and as the last one of the most rules that there may be.
func holdsRule(t *testing.T, name string, r api.Rule, want bool) {
	t.Helper()
	s := api.Spec{Conds: conds("S", "!X", "T"), Rules: []api.Rule{r}}
	holdsRight(t, name, s, want)
	s.Rules = append(slices.Repeat([]api.Rule{{Rx: a(), Act: api.Emit}}, api.MaxRules-1), r)
	holdsRight(t, name+", as the last one", s, want)
}

func TestF1ConditionsOfRules(t *testing.T) {
	for _, c := range []struct {
		conds []int
		want  bool
	}{
		{nil, true}, {[]int{}, true},
		{[]int{0}, true}, {[]int{3}, true}, {[]int{0, 1, 2, 3}, true}, {[]int{1, 3}, true},
		{[]int{4}, false}, {[]int{0, 4}, false}, {[]int{-1}, false}, {[]int{-1, 0}, false},
		{[]int{math.MinInt}, false}, {[]int{math.MaxInt}, false}, {[]int{0, math.MaxInt, math.MinInt}, false},
		{[]int{0, 0}, false}, {[]int{3, 3}, false}, {[]int{1, 0}, false}, {[]int{0, 2, 1}, false}, {[]int{0, 1, 0}, false},
		{[]int{0, 1, 2, 3, 3}, false}, {make([]int, 1000000), false},
	} {
		holdsRule(t, fmt.Sprintf("Conds %.20v", c.conds), api.Rule{Conds: c.conds, Rx: a(), Act: api.Emit}, c.want)
		all := api.Rule{Conds: c.conds, All: true, Rx: a(), Act: api.Emit}
		holdsRule(t, fmt.Sprintf("All and Conds %.20v", c.conds), all, len(c.conds) == 0)
		end := api.Rule{Conds: c.conds, Eof: true, Act: api.Emit}
		holdsRule(t, fmt.Sprintf("Eof and Conds %.20v", c.conds), end, c.want)
	}
}

func TestF1Actions(t *testing.T) {
	numbers := []int{math.MinInt, -2, -1, 0, 1, 2, 3, 4, 5, 6, 40, math.MaxInt}
	for _, act := range numbers {
		for _, to := range numbers {
			want := (act == api.Emit || act == api.Skip) && to == 0 || act == api.Begin && 0 <= to && to <= 3
			name := fmt.Sprintf("Act %d, To %d", act, to)
			holdsRule(t, name, api.Rule{Rx: a(), Act: act, To: to}, want)
			holdsRule(t, name+", Eof", api.Rule{Eof: true, Act: act, To: to}, want)
		}
	}
}

// oddPatterns are neither valid nor no patterns.
func oddPatterns() []api.Rx {
	return []api.Rx{
		{Set: a().Set}, {Lo: 1}, {Lo: -1}, {Hi: 1}, {Hi: -1}, {Kids: []api.Rx{{}}}, {Kids: []api.Rx{a()}},
		{Kind: -1}, {Kind: 6}, {Kind: api.Bytes}, {Kind: api.Cat}, {Kind: api.Alt}, {Kind: api.Rep},
		{Kind: api.Empty, Lo: 1}, cat(a()), cat(a(), api.Rx{}), alt(a(), alt(a(), a())), rep(a(), 0, 21), rep(a(), 2, 1),
		nest(a(), 20), nest(a(), 100000), rep(cat(many(a(), 11)...), 20, 20), cat(many(empty(), 1000)...), cat(many(a(), 1000000)...),
		loop(0), loop(api.Cat), loop(api.Rep),
	}
}

func edgePatterns() []api.Rx {
	return []api.Rx{
		a(), empty(), alt(a(), empty()), in(0), in('\n'), nest(a(), 19), rep(cat(many(a(), 10)...), 20, 20), cat(many(empty(), 999)...),
		{Kind: api.Bytes, Set: a().Set, Kids: []api.Rx{}},
	}
}

func TestF1Patterns(t *testing.T) {
	for i, x := range edgePatterns() {
		name := fmt.Sprint("pattern ", i)
		for _, bol := range []bool{false, true} {
			holdsRule(t, name, api.Rule{Bol: bol, Rx: x, Act: api.Emit}, true)
			holdsRule(t, name+" as Trail", api.Rule{Bol: bol, Rx: a(), Trail: x, Act: api.Emit}, true)
			holdsRule(t, name+" with Eof", api.Rule{Eof: true, Bol: bol, Rx: x, Act: api.Emit}, false)
			holdsRule(t, name+" as Trail, with Eof", api.Rule{Eof: true, Bol: bol, Trail: x, Act: api.Emit}, false)
			holdsRule(t, name+" as Trail alone", api.Rule{Bol: bol, Trail: x, Act: api.Emit}, false)
		}
	}
	for i, x := range oddPatterns() {
		name := fmt.Sprint("odd pattern ", i)
		holdsRule(t, name, api.Rule{Rx: x, Act: api.Emit}, false)
		holdsRule(t, name+" before Trail", api.Rule{Rx: x, Trail: a(), Act: api.Emit}, false)
		holdsRule(t, name+" as Trail", api.Rule{Rx: a(), Trail: x, Act: api.Emit}, false)
		holdsRule(t, name+" with Eof", api.Rule{Eof: true, Rx: x, Act: api.Emit}, false)
		holdsRule(t, name+" as Trail, with Eof", api.Rule{Eof: true, Trail: x, Act: api.Emit}, false)
	}
}

// No pattern may have a list of kids, if it is empty.
func TestF1NoPatterns(t *testing.T) {
	for i, none := range []api.Rx{{}, {Kids: []api.Rx{}}, {Kids: many(a(), 2)[:0]}} {
		name := fmt.Sprint("none ", i)
		holdsRule(t, name, api.Rule{Rx: none, Act: api.Emit}, false)
		holdsRule(t, name+" as Trail", api.Rule{Rx: a(), Trail: none, Act: api.Emit}, true)
		holdsRule(t, name+" with Eof", api.Rule{Eof: true, Rx: none, Trail: none, Act: api.Emit}, true)
		holdsRule(t, name+" with Eof and Bol", api.Rule{Eof: true, Bol: true, Rx: none, Trail: none, Act: api.Emit}, false)
	}
}

func TestF2Active(t *testing.T) {
	s := valid()
	for rule, want := range []string{"0,1,3", "0,1,2,3", "0,2,3", "1", "0,1,2,3", "0,1,3", "2", "0,1,3"} {
		var got []string
		for cond := range s.Conds {
			if spec.Active(s, rule, cond) {
				got = append(got, fmt.Sprint(cond))
			}
		}
		if l := strings.Join(got, ","); l != want {
			t.Errorf("F2: rule %d is active in %s, want %s", rule, l, want)
		}
	}
}

func TestF2WhatDoesNotExist(t *testing.T) {
	s := valid()
	for _, p := range [][2]int{{8, 0}, {-1, 0}, {1, 4}, {1, -1}, {8, 4}, {-1, -1}, {math.MaxInt, 0}, {math.MinInt, 0}, {1, math.MaxInt}, {1, math.MinInt}} {
		if spec.Active(s, p[0], p[1]) {
			t.Errorf("F2: rule %d is active in %d", p[0], p[1])
		}
	}
	if spec.Active(api.Spec{}, 0, 0) || spec.Active(api.Spec{Conds: conds()}, 0, 0) || spec.Active(api.Spec{Rules: s.Rules}, 1, 0) {
		t.Error("F2: active in nothing")
	}
	s.Rules[0].Conds, s.Rules[1].Conds = []int{4, -1}, []int{4, -1}
	for rule := range 2 {
		if spec.Active(s, rule, 4) || spec.Active(s, rule, -1) {
			t.Errorf("F2: rule %d is active in a condition that does not exist", rule)
		}
	}
}

// F2 asks of no specification that it be valid.
func TestF2OddSpecs(t *testing.T) {
	s := api.Spec{Conds: []api.Cond{{Name: "1", Exclusive: true}, {}, {Exclusive: true}}, Rules: []api.Rule{
		{},
		{All: true, Conds: []int{1}},
		{Conds: []int{2, 0, 2, 9}},
		{Rx: loop(api.Cat), Trail: loop(0), Eof: true, Bol: true},
	}}
	for rule, l := range [][3]bool{{false, true, false}, {true, true, true}, {true, false, true}, {false, true, false}} {
		for cond, want := range l {
			if spec.Active(s, rule, cond) != want {
				t.Errorf("F2: rule %d, condition %d: not %v", rule, cond, want)
			}
		}
	}
}

func TestF3Print(t *testing.T) {
	s := valid()
	if text, e := spec.Print(s); text != validText || e != api.OK {
		t.Errorf("F3: Print returns %d and\n%s", e, text)
	}
	s.Default = true
	if text, e := spec.Print(s); text != strings.Replace(validText, "%nodefault\n", "", 1) || e != api.OK {
		t.Errorf("F3: Print with Default returns %d and\n%s", e, text)
	}
}

func TestF3ShortTexts(t *testing.T) {
	digits := in('0', '1', '2', '3', '4', '5', '6', '7', '8', '9')
	for i, c := range []struct {
		s    api.Spec
		want string
	}{
		{api.Spec{Conds: conds()}, "%nodefault\n%%\n"},
		{api.Spec{Conds: conds(), Default: true}, "%%\n"},
		{api.Spec{Conds: conds("!a", "b"), Default: true}, "%x a\n%s b\n%%\n"},
		{api.Spec{Conds: conds("b", "!a")}, "%s b\n%x a\n%nodefault\n%%\n"},
		{api.Spec{Conds: conds(), Default: true, Rules: []api.Rule{{All: true, Rx: rep(digits, 1, -1), Act: api.Emit}}}, "%%\n<*>[0-9]{1,} emit\n"},
		{api.Spec{Conds: conds(), Default: true, Rules: []api.Rule{{Conds: []int{0}, Rx: a(), Act: api.Begin}}}, "%%\n<INITIAL>a begin INITIAL\n"},
		{api.Spec{Conds: conds(), Default: true, Rules: []api.Rule{{Conds: []int{}, Rx: a(), Trail: api.Rx{Kids: []api.Rx{}}, Act: api.Skip}}}, "%%\na skip\n"},
		{api.Spec{Conds: conds(), Default: true, Rules: []api.Rule{{Bol: true, Rx: empty(), Trail: empty(), Act: api.Skip}}}, "%%\n^()/() skip\n"},
	} {
		if text, e := spec.Print(c.s); text != c.want || e != api.OK {
			t.Errorf("F3: %d: Print returns %d and %q", i, e, text)
		}
	}
}

func TestF3LongText(t *testing.T) {
	var every []int
	for b := 0; b < 256; b += 2 {
		every = append(every, b)
	}
	wide := cat(many(in(every...), 200)...)
	s := api.Spec{Conds: conds("a", "b", "c", "d", "e", "f", "g"), Default: true}
	s.Rules = slices.Repeat([]api.Rule{{Conds: []int{0, 1, 2, 3, 4, 5, 6, 7}, Rx: wide, Trail: wide, Act: api.Begin, To: 7}}, api.MaxRules)
	pattern, _ := rx.Print(wide)
	want := "%s a\n%s b\n%s c\n%s d\n%s e\n%s f\n%s g\n%%\n" + strings.Repeat("<INITIAL,a,b,c,d,e,f,g>"+pattern+"/"+pattern+" begin g\n", api.MaxRules)
	if text, e := spec.Print(s); text != want || e != api.OK {
		t.Errorf("F3: Print returns %d and %d bytes, want %d", e, len(text), len(want))
	}
}

// changes are ways to change one part of the valid specification, mostly to another valid one.
func changes() map[string]func(s *api.Spec) {
	return map[string]func(s *api.Spec){
		"default":           func(s *api.Spec) { s.Default = true },
		"fewer conditions":  func(s *api.Spec) { s.Conds = s.Conds[:3] },
		"no conditions":     func(s *api.Spec) { s.Conds = nil },
		"more conditions":   func(s *api.Spec) { s.Conds = append(s.Conds, api.Cond{Name: "T"}) },
		"first name":        func(s *api.Spec) { s.Conds[0].Name = "initial" },
		"name":              func(s *api.Spec) { s.Conds[1].Name = "s" },
		"last name":         func(s *api.Spec) { s.Conds[3].Name = "_8" },
		"exclusive":         func(s *api.Spec) { s.Conds[1].Exclusive = true },
		"not exclusive":     func(s *api.Spec) { s.Conds[2].Exclusive = false },
		"conditions turned": func(s *api.Spec) { s.Conds[1], s.Conds[3] = s.Conds[3], s.Conds[1] },
		"fewer rules":       func(s *api.Spec) { s.Rules = s.Rules[:7] },
		"no rules":          func(s *api.Spec) { s.Rules = nil },
		"more rules":        func(s *api.Spec) { s.Rules = append(s.Rules, s.Rules[0]) },
		"rules turned":      func(s *api.Spec) { s.Rules[0], s.Rules[7] = s.Rules[7], s.Rules[0] },
		"Conds":             func(s *api.Spec) { s.Rules[2].Conds[1] = 1 },
		"fewer Conds":       func(s *api.Spec) { s.Rules[2].Conds = []int{0, 2} },
		"no Conds":          func(s *api.Spec) { s.Rules[2].Conds = nil },
		"Conds turned":      func(s *api.Spec) { slices.Reverse(s.Rules[2].Conds) },
		"all":               func(s *api.Spec) { s.Rules[0].All = true },
		"not all":           func(s *api.Spec) { s.Rules[1].All = false },
		"bol":               func(s *api.Spec) { s.Rules[0].Bol = true },
		"not bol":           func(s *api.Spec) { s.Rules[1].Bol = false },
		"byte":              func(s *api.Spec) { s.Rules[0].Rx = in('b') },
		"kind":              func(s *api.Spec) { s.Rules[1].Rx.Kind = api.Cat },
		"kid":               func(s *api.Spec) { s.Rules[1].Rx.Kids[1] = in('c') },
		"kids":              func(s *api.Spec) { s.Rules[1].Rx.Kids = many(in('a'), 3) },
		"lo":                func(s *api.Spec) { s.Rules[6].Rx.Lo = 0 },
		"hi":                func(s *api.Spec) { s.Rules[6].Rx.Hi = 20 },
		"trail":             func(s *api.Spec) { s.Rules[2].Trail = in('\r') },
		"no trail":          func(s *api.Spec) { s.Rules[6].Trail = api.Rx{} },
		"empty trail":       func(s *api.Spec) { s.Rules[0].Trail = empty() },
		"kid of trail":      func(s *api.Spec) { s.Rules[7].Trail.Kids[1] = a() },
		"odd trail":         func(s *api.Spec) { s.Rules[5].Trail.Lo = 1 },
		"eof":               func(s *api.Spec) { s.Rules[0].Eof = true },
		"not eof":           func(s *api.Spec) { s.Rules[5].Eof = false },
		"act":               func(s *api.Spec) { s.Rules[0].Act = api.Skip },
		"last act":          func(s *api.Spec) { s.Rules[7].Act = api.Skip },
		"begin":             func(s *api.Spec) { s.Rules[0].Act = api.Begin },
		"to":                func(s *api.Spec) { s.Rules[2].To = 3 },
		"odd to":            func(s *api.Spec) { s.Rules[0].To = 1 },
	}
}

// holdsSame holds Same, both ways round, against what it must say.
func holdsSame(t *testing.T, name string, a, b api.Spec, want bool) {
	t.Helper()
	if spec.Same(a, b) != want || spec.Same(b, a) != want {
		t.Errorf("F4: %s: Same is not %v", name, want)
	}
}

func TestF4Same(t *testing.T) {
	holdsSame(t, "zero", api.Spec{}, api.Spec{}, true)
	holdsSame(t, "zero and valid", api.Spec{}, valid(), false)
	holdsSame(t, "valid", valid(), valid(), true)
	for name, change := range changes() {
		s, u := valid(), valid()
		change(&s)
		holdsSame(t, name, s, u, false)
		change(&u)
		holdsSame(t, name+", both", s, u, true)
	}
}

func TestF4SamplesAndCopies(t *testing.T) {
	l := samples()
	for i, s := range l {
		holdsSame(t, fmt.Sprint("sample ", i), s, clone(s), true)
		if other := l[(i+1)%len(l)]; !reflect.DeepEqual(s, other) {
			holdsSame(t, fmt.Sprint("samples from ", i), s, other, false)
		}
	}
}

// R2: an empty slice may be nil or not.
func TestF4EmptySlices(t *testing.T) {
	bare := api.Spec{Rules: []api.Rule{{}}}
	full := api.Spec{Conds: []api.Cond{}, Rules: []api.Rule{{Conds: []int{}, Rx: api.Rx{Kids: []api.Rx{}}, Trail: api.Rx{Kids: []api.Rx{}}}}}
	holdsSame(t, "empty slices", bare, full, true)
	holdsSame(t, "no rules", api.Spec{}, api.Spec{Conds: []api.Cond{}, Rules: []api.Rule{}}, true)
}

func TestF4OddSpecs(t *testing.T) {
	deep := func(last api.Rx) api.Spec {
		return api.Spec{Rules: []api.Rule{{Rx: nest(last, 300000), Trail: nest(a(), 300000)}}}
	}
	holdsSame(t, "deep", deep(a()), deep(a()), true)
	holdsSame(t, "deep, unlike", deep(a()), deep(in('b')), false)
	long := func(last api.Rule) api.Spec {
		return api.Spec{Rules: append(make([]api.Rule, 10000), last)}
	}
	holdsSame(t, "long", long(api.Rule{To: 1}), long(api.Rule{To: 1}), true)
	holdsSame(t, "long, unlike", long(api.Rule{To: 1}), long(api.Rule{To: 2}), false)
	spec.Same(api.Spec{Rules: []api.Rule{{Rx: loop(api.Rep)}}}, api.Spec{Rules: []api.Rule{{Rx: loop(api.Rep)}}})
}

// parsed undoes Print in the words of F3; it is made for no other texts than those of Print.
func parsed(t *testing.T, text string) api.Spec {
	t.Helper()
	if !strings.HasSuffix(text, "\n") {
		t.Fatalf("F3: the last line of %q has no end", text)
	}
	lines := strings.Split(strings.TrimSuffix(text, "\n"), "\n")
	split := slices.Index(lines, "%%")
	s := api.Spec{Conds: conds(), Default: true}
	for _, line := range lines[:split] {
		if line == "%nodefault" {
			s.Default = false
			continue
		}
		s.Conds = append(s.Conds, api.Cond{Name: line[len("%s "):], Exclusive: line[1] == 'x'})
	}
	index := func(name string) int {
		return slices.IndexFunc(s.Conds, func(c api.Cond) bool { return c.Name == name })
	}
	for _, line := range lines[split+1:] {
		s.Rules = append(s.Rules, parsedRule(t, line, index))
	}
	return s
}

func parsedRule(t *testing.T, line string, index func(name string) int) api.Rule {
	t.Helper()
	var r api.Rule
	if line, r.All = strings.CutPrefix(line, "<*>"); !r.All && line[0] == '<' && line[1] != '<' {
		names, rest, _ := strings.Cut(line[1:], ">")
		for _, name := range strings.Split(names, ",") {
			r.Conds = append(r.Conds, index(name))
		}
		line = rest
	}
	line, r.Bol = strings.CutPrefix(line, "^")
	matches, does, _ := strings.Cut(line, " ")
	if r.Eof = matches == "<<EOF>>"; !r.Eof {
		x, trail, has := strings.Cut(matches, "/")
		r.Rx = parsedPattern(t, x)
		if has {
			r.Trail = parsedPattern(t, trail)
		}
	}
	name, begins := strings.CutPrefix(does, "begin ")
	if begins {
		r.Act, r.To = api.Begin, index(name)
		return r
	}
	r.Act = map[string]int{"emit": api.Emit, "skip": api.Skip}[does]
	return r
}

func parsedPattern(t *testing.T, text string) api.Rx {
	t.Helper()
	x, e, at := read.Read(text, nil, false)
	if e != api.OK {
		t.Fatalf("F3: the pattern %q has the error %d at %d", text, e, at)
	}
	return x
}

// What a text can be parsed to is different if the text is not the same.
func TestF5TextsAreUndone(t *testing.T) {
	for i, s := range samples() {
		text, e := spec.Print(s)
		if e != api.OK {
			t.Fatalf("F5: sample %d: error %d", i, e)
		}
		if !spec.Same(parsed(t, text), s) {
			t.Fatalf("F5: sample %d: another specification has the text\n%s", i, text)
		}
	}
}

// small are all specifications of one rule, of a few parts.
func small() []api.Spec {
	var l []api.Spec
	patterns := []api.Rx{{}, a(), empty(), cat(a(), a()), rep(a(), 0, 1), in('/'), in('^'), in(' ')}
	for _, starts := range [][]int{nil, {0}, {1}, {0, 1}} {
		for bits := range 8 {
			for act := api.Emit; act <= api.Begin; act++ {
				for to := range 2 {
					for _, x := range patterns {
						for _, trail := range patterns {
							l = append(l, api.Spec{Conds: conds("EOF"), Rules: []api.Rule{{
								Conds: starts, All: bits&1 > 0, Bol: bits&2 > 0, Eof: bits&4 > 0, Rx: x, Trail: trail, Act: act, To: to,
							}}})
						}
					}
				}
			}
		}
	}
	return l
}

// texts returns how many texts those of the specifications have that are valid.
func texts(t *testing.T, l []api.Spec) int {
	t.Helper()
	owners := map[string]api.Spec{}
	for _, s := range l {
		text, e := spec.Print(s)
		if e != api.OK {
			continue
		}
		if other, ok := owners[text]; ok && !spec.Same(s, other) {
			t.Fatalf("F5: different specifications, %v and %v, have the text\n%s", s, other, text)
		}
		owners[text] = s
	}
	return len(owners)
}

func TestF5DifferentTexts(t *testing.T) {
	const starts, ends, matches, acts = 5, 1, 2 * 7 * 8, 4
	l := small()
	if n := texts(t, l); n != starts*(ends+matches)*acts {
		t.Errorf("F5: %d texts of small specifications", n)
	}
	for _, change := range changes() {
		s := valid()
		change(&s)
		l = append(l, s)
	}
	texts(t, append(l, samples()...))
}

// R3 and R4: arguments are not modified, nor memory behind them, and calls depend on nothing else.
func TestArgumentsAreKept(t *testing.T) {
	for i, s := range samples()[:200] {
		s.Conds = append(s.Conds, api.Cond{Name: "beyond"})
		s.Rules = append(s.Rules, api.Rule{Conds: []int{7}, To: 7})
		for j := range s.Rules {
			s.Rules[j].Conds = append(s.Rules[j].Conds, 77)
		}
		kept := clone(s)
		part := s
		part.Conds, part.Rules = s.Conds[:len(s.Conds)-1], slices.Clone(s.Rules[:len(s.Rules)-1])
		for j, r := range part.Rules {
			part.Rules[j].Conds = r.Conds[:len(r.Conds)-1]
		}
		first, e := spec.Print(part)
		again, f := spec.Print(part)
		if first != again || e != api.OK || f != api.OK || !spec.Right(part) || !spec.Same(part, clone(part)) {
			t.Fatalf("R4: sample %d: errors %d and %d, or not the same again", i, e, f)
		}
		for rule := range part.Rules {
			for cond := range part.Conds {
				spec.Active(part, rule, cond)
			}
		}
		if !reflect.DeepEqual(s, kept) {
			t.Fatalf("R3: sample %d: an argument was modified", i)
		}
	}
}
