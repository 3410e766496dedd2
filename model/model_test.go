package model_test

import (
	"fmt"
	"math"
	"reflect"
	"slices"
	"strings"
	"testing"

	"heckle/api"
	"heckle/model"
)

func TestH1Head(t *testing.T) {
	for i, c := range []struct {
		rule, text string
		want       int
	}{
		{"abc emit", "abc", 3},
		{"abc emit", "ab", 0},
		{"abc emit", "abcc", 0},
		{"abc emit", "", 0},
		{"a* emit", "", 0},
		{"() emit", "", 0},
		{"a* emit", "aaa", 3},
		{"a* emit", "aab", 0},
		{"a|ab emit", "ab", 2},
		{`\x00|\xff+ emit`, "\xff\xff", 2},
		{"a/b emit", "ab", 1},
		{"a/b emit", "a", 0},
		{"a/b emit", "b", 0},
		{"a/b emit", "", 0},
		{"a/b emit", "abb", 0},
		{"a/b emit", "aab", 0},
		{"ab*/b emit", "abb", 2},
		{"a*/b emit", "b", 0},
		{"a*/b emit", "ab", 1},
		{"a*/b* emit", "", 0},
		{"a*/b* emit", "bb", 0},
		{"a*/b* emit", "a", 1},
		{"a*/b* emit", "aab", 2},
		{"a*/a* emit", "aaa", 3},
		{"a*/a+ emit", "aaa", 2},
		{"a*/a+ emit", "a", 0},
		{"a+/a* emit", "aaa", 3},
		{"a+/() emit", "aaa", 3},
		{"()/a+ emit", "aaa", 0},
		{"()/() emit", "", 0},
		{"a|aaa/aa|aaaa emit", "aaaaa", 3},
		{"a|aaa/aaaa emit", "aaaaa", 1},
		{"(ab)*/(ba)*a?b? emit", "ababab", 6},
		{"[ab]*/ab emit", "ababab", 4},
		{"[ab]+/b[ab]* emit", "abba", 2},
		{"[ab]+/b[ab]{2} emit", "abbab", 2},
		{"[ab]+/bb[ab]* emit", "abba", 1},
		{"aa$ emit", "aa\n", 2},
		{"aa$ emit", "aa", 0},
		{`a\n*$ emit`, "a\n\n\n", 3},
		{`[\x80-\xff]+/\xff emit`, "\x80\xff\xff", 2},
		{"^a emit", "a", 1},
		{"<X>a/a begin X", "aa", 1},
	} {
		if got := model.Head(only(t, c.rule), c.text); got != c.want {
			t.Errorf("H1: %d: Head of %q, %q: %d, want %d", i, c.rule, c.text, got, c.want)
		}
	}
}

func TestH1AgainstTheOracle(t *testing.T) {
	l := texts("ab\n", 5)
	taken, parted := 0, 0
	for _, s := range samples(t, 300) {
		o := newOracle(t, s)
		for rule, r := range s.Rules {
			if r.Eof {
				continue
			}
			for _, text := range l {
				want := o.head(rule, text)
				if got := model.Head(r, text); got != want {
					t.Fatalf("H1: Head of %v, %q: %d, want %d", r, text, got, want)
				}
				if want > 0 {
					taken++
				}
				if want > 0 && want < len(text) {
					parted++
				}
			}
		}
	}
	if taken < 6000 || parted < 2500 {
		t.Errorf("H1: only %d texts were matched, and %d divided", taken, parted)
	}
}

// trailRules are rules whose texts can often be divided in several ways.
func trailRules(t *testing.T) api.Spec {
	t.Helper()
	parts := strings.Fields("a a* a+ a? ab a|ab a|aab [ab]* [ab]+ b* (ab)* (a|ba)+ () (aa)+ [ab]{1,2}")
	s := ruled(t, "a emit")
	s.Rules = nil
	for _, x := range parts {
		for _, trail := range parts {
			s.Rules = append(s.Rules, only(t, x+"/"+trail+" emit"))
		}
	}
	return s
}

func TestH1LongestDivision(t *testing.T) {
	s := trailRules(t)
	o := newOracle(t, s)
	several := 0
	for rule, r := range s.Rules {
		for _, text := range texts("ab", 6) {
			l := o.divisions(rule, text)
			if len(l) > 1 {
				several++
			}
			if got := model.Head(r, text); got != append(l, 0)[0] {
				t.Fatalf("H1: Head of %v, %q: %d of %v", r, text, got, l)
			}
		}
	}
	if several < 2000 {
		t.Errorf("H1: only %d texts can be divided in several ways", several)
	}
}

func TestH1WrongPatterns(t *testing.T) {
	for name, x := range wrongPatterns() {
		for _, text := range []string{"", "a", "aa"} {
			if n := model.Head(api.Rule{Rx: x, Act: api.Emit}, text); n != 0 {
				t.Errorf("H1: %s: Head of %q is %d", name, text, n)
			}
			if n := model.Head(api.Rule{Rx: x, Trail: rep(in('a'), 0, -1), Act: api.Emit}, text); n != 0 {
				t.Errorf("H1: %s, with a Trail: Head of %q is %d", name, text, n)
			}
			if n := model.Head(api.Rule{Rx: rep(in('a'), 0, -1), Trail: x, Act: api.Emit}, text); x.Kind != 0 && n != 0 {
				t.Errorf("H1: %s as Trail: Head of %q is %d", name, text, n)
			}
		}
	}
}

// The Kind of the Trail alone says whether there is one, and only the patterns say what a rule matches.
func TestH1OddRules(t *testing.T) {
	a := in('a')
	for name, r := range map[string]api.Rule{
		"no Act":          {Rx: a},
		"Trail with kids": {Rx: a, Trail: api.Rx{Kids: []api.Rx{a}}},
		"Trail with Hi":   {Rx: a, Trail: api.Rx{Lo: 1, Hi: 2}},
		"Trail with Set":  {Rx: a, Trail: api.Rx{Set: a.Set}},
		"endless Trail":   {Rx: a, Trail: loop(0)},
		"odd numbers":     {Rx: a, Conds: []int{-1, 99}, Act: 77, To: -5},
	} {
		if n := model.Head(r, "a"); n != 1 {
			t.Errorf("H1: %s: Head is %d", name, n)
		}
		if n := model.Head(r, "aa"); n != 0 {
			t.Errorf("H1: %s: Head of what does not match is %d", name, n)
		}
	}
}

// Rx and Trail are each within the limits of patterns, whether or not they are so together.
func TestLimitsOfBothPatterns(t *testing.T) {
	a, b := in('a'), in('b')
	word := func(x api.Rx, n int) api.Rx { return rep(rep(x, n/20, n/20), 20, 20) }
	nothing := func(n int) api.Rx { return cat(append(slices.Repeat([]api.Rx{empty()}, n), a)...) }
	for name, c := range map[string]struct {
		rx, trail api.Rx
		text      string
		head      int
	}{
		"Size 200":      {word(a, 100), word(b, 100), strings.Repeat("a", 100) + strings.Repeat("b", 100), 100},
		"Size 220":      {word(a, 120), word(b, 100), strings.Repeat("a", 120) + strings.Repeat("b", 100), 120},
		"Size 400":      {word(a, 200), word(b, 200), strings.Repeat("a", 200) + strings.Repeat("b", 200), 200},
		"Size 201":      {word(a, 200), rep(b, 0, -1), strings.Repeat("a", 200) + "bb", 200},
		"18 levels":     {nest(a, 17), b, "ab", 1},
		"19 levels":     {nest(a, 18), b, "ab", 1},
		"20 levels":     {nest(a, 19), nest(b, 19), "ab", 1},
		"1000 patterns": {nothing(990), cat(a, b), "aab", 1},
		"many patterns": {nothing(990), nothing(990), "aa", 1},
		"null, beyond":  {rep(rep(a, 0, 10), 20, 20), rep(rep(a, 0, 10), 20, 20), "aaa", 3},
	} {
		r := api.Rule{Rx: c.rx, Trail: c.trail, Act: api.Emit}
		s := api.Spec{Conds: []api.Cond{{Name: "INITIAL"}}, Rules: []api.Rule{r}}
		if n := model.Head(r, c.text); n != c.head {
			t.Errorf("H1: %s: Head is %d, want %d", name, n, c.head)
		}
		if n := model.Head(r, c.text+"c"); n != 0 {
			t.Errorf("H1: %s: Head of what does not match is %d", name, n)
		}
		if rule, n := model.Pick(s, "c"+c.text+"c", 1, 0); rule != 0 || n != len(c.text) {
			t.Errorf("H2: %s: Pick is %d, %d", name, rule, n)
		}
		got, e := model.Tokens(s, c.text)
		if e != api.OK || len(got.Tokens) == 0 || got.Tokens[0] != (api.Token{End: c.head}) {
			t.Errorf("H3: %s: %d, %s", name, e, written(got))
		}
	}
}

func TestH1LongTexts(t *testing.T) {
	long := strings.Repeat("a", 10001)
	for _, c := range []struct {
		rule string
		want int
	}{{"a+ emit", 10000}, {"a+/a emit", 9999}, {"a/a+ emit", 1}, {"a+/a* emit", 10000}} {
		r := only(t, c.rule)
		if n := model.Head(r, long[1:]); n != c.want {
			t.Errorf("H1: Head of %q, 10000 bytes: %d, want %d", c.rule, n, c.want)
		}
		if n := model.Head(r, long); n != 0 {
			t.Errorf("H1: Head of %q, 10001 bytes: %d", c.rule, n)
		}
	}
}

func TestH2Pick(t *testing.T) {
	for i, c := range []struct {
		rules    string
		w        string
		at, cond int
		rule, n  int
	}{
		{"a emit", "a", 0, 0, 0, 1},
		{"a emit", "b", 0, 0, -1, 0},
		{"a emit", "", 0, 0, -1, 0},
		{"a emit", "ba", 1, 0, 0, 1},
		{"a emit", "a", 1, 0, -1, 0},
		{"a* emit", "b", 0, 0, -1, 0},
		{"a* emit", "b", 1, 0, -1, 0},
		{"() emit; a* emit", "aab", 0, 0, 1, 2},
		{"() emit", "aab", 0, 0, -1, 0},
		// The most bytes, and of several rules the first one.
		{"a emit; ab emit; abc emit", "abcd", 0, 0, 2, 3},
		{"abc emit; ab emit; a emit", "abcd", 0, 0, 0, 3},
		{"if emit; [a-z]+ emit", "if", 0, 0, 0, 2},
		{"[a-z]+ emit; if emit", "if", 0, 0, 0, 2},
		{"if emit; [a-z]+ emit", "iff", 0, 0, 1, 3},
		{"if emit; [a-z]+ emit", "i", 0, 0, 1, 1},
		{"b emit; a emit; a emit; a emit", "a", 0, 0, 1, 1},
		{"a|abc emit; ab emit", "abd", 0, 0, 1, 2},
		// What a Trail matches counts.
		{"ab emit; a/b emit", "ab", 0, 0, 0, 2},
		{"a/b emit; ab emit", "ab", 0, 0, 0, 2},
		{"ab emit; a/bc emit", "abc", 0, 0, 1, 3},
		{"ab emit; a/bc emit", "abd", 0, 0, 0, 2},
		{"a/b* emit; abb emit", "abb", 0, 0, 0, 3},
		{"a/() emit", "aa", 0, 0, 0, 1},
		{"a+/a* emit; a+ emit", "aaab", 0, 0, 0, 3},
		{"a/b emit", "a", 0, 0, -1, 0},
		{"a/b emit", "aab", 0, 0, -1, 0},
		{"a/b emit", "aab", 1, 0, 0, 2},
		// The first part must not be empty.
		{"a*/b+ emit", "bbb", 0, 0, -1, 0},
		{"a*/b+ emit", "abbb", 0, 0, 0, 4},
		{"a*/b* emit", "bbb", 0, 0, -1, 0},
		{"a?/ab* emit", "abbb", 0, 0, -1, 0},
		{"a?/ab* emit", "aabb", 0, 0, 0, 4},
		{"b?/b+a? emit; b emit", "ba", 0, 0, 1, 1},
		{"()/a+ emit", "aaa", 0, 0, -1, 0},
		{"()|a/a+ emit", "aaa", 0, 0, 0, 3},
		// The longest match need not be that with the longest first part.
		{"a|aab/aabb|c emit", "aaabbc", 0, 0, 0, 5},
		{"a|aab/aabb|c emit", "aabc", 0, 0, 0, 4},
		{"a*/(ab)?c? emit", "aaabc", 0, 0, 0, 5},
		{"a*/b?|aabbb emit", "aabbb", 0, 0, 0, 3},
		{"a*/b*|aabbbc emit", "aabbbc", 0, 0, 0, 5},
		// The beginnings of lines.
		{"^a emit", "a", 0, 0, 0, 1},
		{"^a emit", "aa", 1, 0, -1, 0},
		{"^a emit", "\na", 1, 0, 0, 1},
		{"^a emit", "\ra", 1, 0, -1, 0},
		{"^a emit", "a\n", 0, 0, 0, 1},
		{"^a|b emit", "ab", 1, 0, -1, 0},
		{"^aa emit; a emit", "aa", 0, 0, 0, 2},
		{"^aa emit; a emit", "aaa", 1, 0, 1, 1},
		{"^a emit; a emit", "aa", 0, 0, 0, 1},
		{"^a emit; a emit", "aa", 1, 0, 1, 1},
		{`^\n emit`, "\n\n", 1, 0, 0, 1},
		{"^a/b emit", "\nab", 1, 0, 0, 2},
		{"^a/b emit", "bab", 1, 0, -1, 0},
		{"^a emit", "\n", 1, 0, -1, 0},
		// The conditions.
		{"a emit", "a", 0, 1, 0, 1},
		{"a emit", "a", 0, 2, -1, 0},
		{"<*>a emit", "a", 0, 2, 0, 1},
		{"<X>a emit", "a", 0, 2, 0, 1},
		{"<X>a emit", "a", 0, 0, -1, 0},
		{"<S>a emit", "a", 0, 0, -1, 0},
		{"<S>a emit", "a", 0, 1, 0, 1},
		{"<S,X>a emit", "a", 0, 2, 0, 1},
		{"<INITIAL>a emit", "a", 0, 0, 0, 1},
		{"<INITIAL>a emit", "a", 0, 1, -1, 0},
		{"<S>ab emit; a emit", "ab", 0, 0, 1, 1},
		{"<S>ab emit; a emit", "ab", 0, 1, 0, 2},
		{"<X>^ab emit; <*>a emit", "ab", 0, 2, 0, 2},
		{"<X>^ab emit; <*>a emit", "aab", 1, 2, 1, 1},
		// Rules for the end of the input.
		{"<<EOF>> emit", "a", 0, 0, -1, 0},
		{"<<EOF>> emit", "", 0, 0, -1, 0},
		{"<<EOF>> emit", "a", 1, 0, -1, 0},
		{"<*><<EOF>> emit; a emit", "a", 0, 0, 1, 1},
		// All bytes.
		{`[^a] emit`, "\xff", 0, 0, 0, 1},
		{`\x00\x80+ emit`, "\x00\x80\x80\x81", 0, 0, 0, 3},
		{`. emit`, "\n", 0, 0, -1, 0},
		{"a skip", "a", 0, 0, 0, 1},
		{"a begin X", "a", 0, 0, 0, 1},
	} {
		if rule, n := model.Pick(ruled(t, c.rules), c.w, c.at, c.cond); rule != c.rule || n != c.n {
			t.Errorf("H2: %d: Pick of %q, %q from %d in %d: %d, %d, want %d, %d", i, c.rules, c.w, c.at, c.cond, rule, n, c.rule, c.n)
		}
	}
}

func TestH2LineBeginsBehindOneByteAlone(t *testing.T) {
	s := ruled(t, "^a emit")
	for b := range 256 {
		want := -1
		if b == 10 {
			want = 0
		}
		if rule, _ := model.Pick(s, string([]byte{byte(b), 'a'}), 1, 0); rule != want {
			t.Errorf("H2: behind the byte %d: %d", b, rule)
		}
	}
}

func TestH2AgainstTheOracle(t *testing.T) {
	d := dice(2463534242)
	picked := map[string]int{}
	for _, s := range samples(t, 700) {
		o := newOracle(t, s)
		w := d.text(8)
		for at := range len(w) + 1 {
			for cond := range s.Conds {
				wantRule, wantN := o.pick(w, at, cond)
				rule, n := model.Pick(s, w, at, cond)
				if rule != wantRule || n != wantN {
					t.Fatalf("H2: Pick of %v, %q from %d in %d: %d, %d, want %d, %d", s, w, at, cond, rule, n, wantRule, wantN)
				}
				if rule < 0 {
					picked["none"]++
					continue
				}
				picked["some"]++
				if s.Rules[rule].Bol && at > 0 {
					picked["in a further line"]++
				}
				if s.Rules[rule].Trail.Kind != 0 {
					picked["with a Trail"]++
				}
			}
		}
	}
	if picked["none"] < 1000 || picked["some"] < 3000 || picked["in a further line"] < 100 || picked["with a Trail"] < 500 {
		t.Errorf("H2: too few of a sort: %v", picked)
	}
}

// The longest match is to be found among all divisions, whichever first part it has.
func TestH2Trails(t *testing.T) {
	all := trailRules(t)
	shorter := 0
	for rule := range all.Rules {
		s := api.Spec{Conds: all.Conds[:1], Rules: all.Rules[rule : rule+1]}
		o := newOracle(t, s)
		for _, w := range texts("ab", 6) {
			_, want := o.pick(w, 0, 0)
			picked, n := model.Pick(s, w, 0, 0)
			if n != want || picked != min(want, 1)-1 {
				t.Fatalf("H2: Pick of %v, %q: %d, %d, want %d bytes", s.Rules, w, picked, n, want)
			}
			if n > 0 && n < len(w) && model.Head(s.Rules[0], w[:n]) < n {
				shorter++
			}
		}
	}
	if shorter < 2000 {
		t.Errorf("H2: only %d matches end before the input does", shorter)
	}
}

func TestH2WrongArguments(t *testing.T) {
	s := ruled(t, "<*>a emit; <*>^b emit; <*><<EOF>> emit")
	for _, w := range []string{"", "a", "aab", "\n"} {
		for _, at := range []int{-1, -2, len(w) + 1, len(w) + 2, math.MinInt, math.MaxInt, 1 << 32, -1 << 32} {
			if rule, n := model.Pick(s, w, at, 0); rule != -1 || n != 0 {
				t.Errorf("H2: from %d of %q: %d, %d", at, w, rule, n)
			}
		}
		for _, cond := range []int{-1, -2, 3, 4, math.MinInt, math.MaxInt, 1 << 32, -1 << 32} {
			if rule, n := model.Pick(s, w, 0, cond); rule != -1 || n != 0 {
				t.Errorf("H2: in %d: %d, %d", cond, rule, n)
			}
		}
	}
	for name, s := range wrongSpecs(t) {
		for _, w := range []string{"a", "b", "aa"} {
			for at := range len(w) + 1 {
				if rule, n := model.Pick(s, w, at, 0); rule != -1 || n != 0 {
					t.Errorf("H2: %s: from %d of %q: %d, %d", name, at, w, rule, n)
				}
			}
		}
	}
}

func TestH2LongInputs(t *testing.T) {
	long := strings.Repeat("a", 10001)
	for _, c := range []struct {
		rule string
		n    int
	}{{"a emit", 1}, {"a+ emit", 10000}, {"a/a+ emit", 10000}, {"a+/b? emit", 10000}} {
		s := ruled(t, c.rule)
		for _, at := range []int{0, 1, 9998} {
			if rule, n := model.Pick(s, long[1:], at, 0); rule != 0 || n != min(c.n, 10000-at) {
				t.Errorf("H2: %s: from %d of 10000 bytes: %d, %d", c.rule, at, rule, n)
			}
		}
		for _, at := range []int{0, 1, 9998, 10000, 10001} {
			if rule, n := model.Pick(s, long, at, 0); rule != -1 || n != 0 {
				t.Errorf("H2: %s: from %d of 10001 bytes: %d, %d", c.rule, at, rule, n)
			}
		}
		if rule, n := model.Pick(s, long[1:], 10000, 0); rule != -1 || n != 0 {
			t.Errorf("H2: %s: from the end of 10000 bytes: %d, %d", c.rule, rule, n)
		}
	}
}

// written is a result as the tests write it: of each token rule, start, end and condition, and the jam.
func written(r api.Result) string {
	return fmt.Sprint(r.Tokens, r.Jam)
}

func TestH3Tokens(t *testing.T) {
	for i, c := range []struct{ rules, w, want string }{
		{"ab emit; a/b skip; [a-z] emit", "abc", "[{0 0 2 0} {2 2 3 0}] -1"},
		{"a emit", "", "[] -1"},
		{"a emit", "aa", "[{0 0 1 0} {0 1 2 0}] -1"},
		{"a+ emit", "aa", "[{0 0 2 0}] -1"},
		{"a skip", "aa", "[{0 0 1 0} {0 1 2 0}] -1"},
		{"a* emit", "bb", "[{-1 0 1 0} {-1 1 2 0}] -1"},
		{"a emit", "\xff\x00a", "[{-1 0 1 0} {-1 1 2 0} {0 2 3 0}] -1"},
		{"a emit; b emit; ab emit; aba emit", "ababb", "[{3 0 3 0} {1 3 4 0} {1 4 5 0}] -1"},
		// The token is the Head, and what the Trail matched is read again.
		{"a/b emit; b emit", "ab", "[{0 0 1 0} {1 1 2 0}] -1"},
		{"a+/ab emit; a skip; b skip", "aaab", "[{0 0 2 0} {1 2 3 0} {2 3 4 0}] -1"},
		{"a*/b* emit", "aabb", "[{0 0 2 0} {-1 2 3 0} {-1 3 4 0}] -1"},
		{"[ab]+/b+ emit", "abbb", "[{0 0 3 0} {-1 3 4 0}] -1"},
		{"a/a* emit", "aaa", "[{0 0 1 0} {0 1 2 0} {0 2 3 0}] -1"},
		{"a/bc emit; ab emit", "abcab", "[{0 0 1 0} {-1 1 2 0} {-1 2 3 0} {1 3 5 0}] -1"},
		{`a+$ emit; a skip; \n skip`, "aa\na", "[{0 0 2 0} {2 2 3 0} {1 3 4 0}] -1"},
		// Lines begin behind a line feed, whoever took it.
		{`^a emit; a skip; \n skip`, "aa\naa", "[{0 0 1 0} {1 1 2 0} {2 2 3 0} {0 3 4 0} {1 4 5 0}] -1"},
		{"^a emit", "a\na", "[{0 0 1 0} {-1 1 2 0} {0 2 3 0}] -1"},
		{`^a emit; a\n? skip`, "aa\na", "[{0 0 1 0} {1 1 3 0} {0 3 4 0}] -1"},
		{`^a/\na emit; \n/a skip`, "a\na", "[{0 0 1 0} {1 1 2 0} {-1 2 3 0}] -1"},
		// Begin.
		{"a begin X; <X>b begin INITIAL", "aabba", "[{0 0 1 0} {-1 1 2 2} {1 2 3 2} {-1 3 4 0} {0 4 5 0}] -1"},
		{"a begin S; <S>a emit; b skip", "aab", "[{0 0 1 0} {0 1 2 1} {2 2 3 1}] -1"},
		{"<*>a begin S; <S>b begin X; <X>b begin INITIAL", "abbb", "[{0 0 1 0} {1 1 2 1} {2 2 3 2} {-1 3 4 0}] -1"},
		{"<*>a emit; b begin X; <X>c skip", "babca", "[{1 0 1 0} {0 1 2 2} {-1 2 3 2} {2 3 4 2} {0 4 5 2}] -1"},
		{"a/b begin X; <X>b emit; b skip", "ab", "[{0 0 1 0} {1 1 2 2}] -1"},
		{"a begin INITIAL; <X>a skip", "aa", "[{0 0 1 0} {0 1 2 0}] -1"},
		// The end of the input.
		{"<<EOF>> emit", "", "[{0 0 0 0}] -1"},
		{"<<EOF>> emit", "a", "[{-1 0 1 0} {0 1 1 0}] -1"},
		{"a emit; <<EOF>> skip; <<EOF>> emit", "a", "[{0 0 1 0} {1 1 1 0}] -1"},
		{"<X><<EOF>> emit; <*><<EOF>> begin X; <<EOF>> emit", "", "[{1 0 0 0}] -1"},
		{"<S><<EOF>> emit", "a", "[{-1 0 1 0}] -1"},
		{"a begin S; <INITIAL><<EOF>> emit; <S><<EOF>> emit", "a", "[{0 0 1 0} {2 1 1 1}] -1"},
		{"a begin S; <INITIAL><<EOF>> emit; <S><<EOF>> emit", "", "[{1 0 0 0}] -1"},
		{"a begin X; <<EOF>> emit", "a", "[{0 0 1 0}] -1"},
		{"a begin X; <X><<EOF>> begin INITIAL; <<EOF>> emit", "a", "[{0 0 1 0} {1 1 1 2}] -1"},
	} {
		r, e := model.Tokens(ruled(t, c.rules), c.w)
		if got := written(r); got != c.want || e != api.OK {
			t.Errorf("H3: %d: %q of %q: %d, %s, want %s", i, c.w, c.rules, e, got, c.want)
		}
	}
}

func TestH3Jams(t *testing.T) {
	for i, c := range []struct{ text, w, want string }{
		{"%nodefault\n%%\n", "", "[] -1"},
		{"%nodefault\n%%\n", "a", "[] 0"},
		{"%%\n", "ab", "[{-1 0 1 0} {-1 1 2 0}] -1"},
		{"%nodefault\n%%\na emit\n", "aa", "[{0 0 1 0} {0 1 2 0}] -1"},
		{"%nodefault\n%%\na emit\n", "aabaa", "[{0 0 1 0} {0 1 2 0}] 2"},
		{"%nodefault\n%%\na* emit\n", "b", "[] 0"},
		{"%nodefault\n%%\na emit\n<<EOF>> emit\n", "a", "[{0 0 1 0} {1 1 1 0}] -1"},
		{"%nodefault\n%%\na emit\n<<EOF>> emit\n", "ab", "[{0 0 1 0}] 1"},
		{"%nodefault\n%%\n<<EOF>> emit\n", "b", "[] 0"},
		{"%nodefault\n%%\na/b emit\n", "ab", "[{0 0 1 0}] 1"},
		{"%nodefault\n%%\na/b emit\n", "aa", "[] 0"},
		{"%nodefault\n%%\n^a emit\n", "aa", "[{0 0 1 0}] 1"},
		{"%x X\n%nodefault\n%%\na begin X\n", "aa", "[{0 0 1 0}] 1"},
		{"%x X\n%nodefault\n%%\na begin X\n<*>b begin INITIAL\n", "abaa", "[{0 0 1 0} {1 1 2 1} {0 2 3 0}] 3"},
	} {
		r, e := model.Tokens(parsed(t, c.text), c.w)
		if got := written(r); got != c.want || e != api.OK {
			t.Errorf("H3: %d: %q of %q: %d, %s, want %s", i, c.w, c.text, e, got, c.want)
		}
	}
}

func TestH3AgainstTheOracle(t *testing.T) {
	d := dice(521288629)
	var jams, ends, moved, parted int
	for i, s := range samples(t, 2500) {
		o := newOracle(t, s)
		w := d.text(i % 13)
		want := o.tokens(w, 0, 0)
		r, e := model.Tokens(s, w)
		if e != api.OK || written(r) != written(want) {
			t.Fatalf("H3: %q of %v: %d, %s, want %s", w, s, e, written(r), written(want))
		}
		if r.Jam > 0 {
			jams++
		}
		for _, token := range r.Tokens {
			switch {
			case token.Start == token.End:
				ends++
			case token.Cond > 0:
				moved++
			case token.Rule >= 0 && s.Rules[token.Rule].Trail.Kind != 0 && token.End-token.Start > 1:
				parted++
			}
		}
	}
	if jams < 50 || ends < 200 || moved < 1000 || parted < 100 {
		t.Errorf("H3: too few of a sort: %d jams, %d ends, %d tokens in further conditions, %d Heads", jams, ends, moved, parted)
	}
}

func TestH3AllShortInputs(t *testing.T) {
	s := parsed(t, "%s S\n%x X\n%nodefault\n%%\n^a+/b emit\na/b+a begin S\n<*>b{2,} begin X\n<S>[ab] skip\n<X>a|\\n begin INITIAL\n<X>b$ emit\n<S,X><<EOF>> emit\na\\n emit\n\\n skip\n<<EOF>> emit\n")
	o := newOracle(t, s)
	for _, w := range texts("ab\n", 7) {
		want := o.tokens(w, 0, 0)
		if r, e := model.Tokens(s, w); e != api.OK || written(r) != written(want) {
			t.Fatalf("H3: %q: %d, %s, want %s", w, e, written(r), written(want))
		}
	}
}

func TestH3WrongArguments(t *testing.T) {
	holdsError := func(name string, s api.Spec, w string) {
		t.Helper()
		if r, e := model.Tokens(s, w); e != api.ErrArg || len(r.Tokens) != 0 || r.Jam != 0 {
			t.Errorf("H3: %s: error %d, %s", name, e, written(r))
		}
	}
	long := strings.Repeat("a", 10001)
	for name, s := range wrongSpecs(t) {
		holdsError(name, s, "")
		holdsError(name, s, "ab")
		holdsError(name+", long", s, long)
	}
	for _, text := range []string{"%%\n", "%nodefault\n%%\n", "%%\na+ emit\n<<EOF>> emit\n"} {
		holdsError("10001 bytes", parsed(t, text), long)
	}
}

func TestH3LongInputs(t *testing.T) {
	long := strings.Repeat("ab", 5000)
	for _, c := range []struct {
		text, w, last string
		n, jam        int
	}{
		{"%%\n[ab]+ emit\n<<EOF>> emit\n", long, "{1 10000 10000 0}", 2, -1},
		{"%%\n", long, "{-1 9999 10000 0}", 10000, -1},
		{"%nodefault\n%%\n[ab]+/b emit\n", long, "{0 0 9999 0}", 1, 9999},
		{"%%\na/ba? emit\nb skip\n", long[:400], "{1 399 400 0}", 400, -1},
		{"%nodefault\n%%\na/ba emit\nb skip\n", long[:400], "{1 397 398 0}", 398, 398},
	} {
		r, e := model.Tokens(parsed(t, c.text), c.w)
		if e != api.OK || len(r.Tokens) != c.n || r.Jam != c.jam {
			t.Fatalf("H3: %q: %d, %d tokens, jam %d", c.text, e, len(r.Tokens), r.Jam)
		}
		if last := fmt.Sprint(r.Tokens[c.n-1]); last != c.last {
			t.Errorf("H3: %q: the last token is %s, want %s", c.text, last, c.last)
		}
	}
}

// Each token's search reads the rest in vain, with and without a Trail.
func TestH3RestReadAgain(t *testing.T) {
	s := parsed(t, "%%\na emit\na*b emit\na*/a*c emit\n")
	r, e := model.Tokens(s, strings.Repeat("a", 60)+"b")
	if got := written(r); e != api.OK || got != "[{1 0 61 0}] -1" {
		t.Errorf("H3: %d, %s", e, got)
	}
	r, e = model.Tokens(s, strings.Repeat("a", 60)+"d")
	if e != api.OK || len(r.Tokens) != 61 || r.Tokens[59] != (api.Token{Rule: 0, Start: 59, End: 60}) || r.Tokens[60].Rule != -1 {
		t.Errorf("H3: %d, %s", e, written(r))
	}
}

func TestH4NoGaps(t *testing.T) {
	d := dice(362436069)
	for _, s := range samples(t, 1500) {
		w := d.text(d.roll(15))
		r, _ := model.Tokens(s, w)
		at := 0
		for i, token := range r.Tokens {
			isEof := token.Rule >= 0 && s.Rules[token.Rule].Eof
			if token.Start != at || isEof != (token.End == at) || isEof && i != len(r.Tokens)-1 {
				t.Fatalf("H4: token %d of %q by %v: %s", i, w, s, written(r))
			}
			at = token.End
		}
		if r.Jam >= 0 && r.Jam != at || r.Jam == -1 && at != len(w) || r.Jam == len(w) {
			t.Fatalf("H4: %q by %v ends at %d: %s", w, s, at, written(r))
		}
	}
}

// rest is what the tokens behind a given one may depend on.
type rest struct {
	cond   int
	begins bool
	text   string
}

// after returns the tokens from the one at index i on, with positions from the first one's on.
func after(r api.Result, i, at int) string {
	moved := api.Result{Jam: r.Jam}
	for _, token := range r.Tokens[i:] {
		token.Start, token.End = token.Start-at, token.End-at
		moved.Tokens = append(moved.Tokens, token)
	}
	if moved.Jam >= 0 {
		moved.Jam -= at
	}
	return written(moved)
}

func TestH4DependsOnTheRest(t *testing.T) {
	l := texts("ab\n", 5)
	again := 0
	for _, s := range samples(t, 60) {
		known := map[rest]string{}
		for _, w := range l {
			r, _ := model.Tokens(s, w)
			for i, token := range r.Tokens {
				at := token.Start
				k := rest{token.Cond, at == 0 || w[at-1] == 10, w[at:]}
				want, ok := known[k]
				if !ok {
					known[k] = after(r, i, at)
					continue
				}
				again++
				if got := after(r, i, at); got != want {
					t.Fatalf("H4: %v behind %q: %s, elsewhere %s", s, w[:at], got, want)
				}
			}
		}
	}
	if again < 5000 {
		t.Errorf("H4: only %d rests were found again", again)
	}
}

// R3: arguments are not modified, nor memory behind them, and results share nothing.
func TestR3Memory(t *testing.T) {
	d := dice(88675123)
	for i, s := range samples(t, 300) {
		s.Conds = append(s.Conds, api.Cond{Name: "beyond"})[:len(s.Conds)]
		s.Rules = append(s.Rules, api.Rule{To: 7})[:len(s.Rules)]
		for j, r := range s.Rules {
			s.Rules[j].Conds = append(r.Conds, 77)[:len(r.Conds)]
		}
		kept, w := clone(s), d.text(10)
		first, _ := model.Tokens(s, w)
		want := written(first)
		model.Pick(s, w, 3, 0)
		for _, r := range s.Rules {
			model.Head(r, w)
		}
		if !reflect.DeepEqual(clone(s), kept) {
			t.Fatalf("R3: sample %d: an argument was modified", i)
		}
		for j := range first.Tokens {
			first.Tokens[j] = api.Token{Rule: 77}
		}
		if r, _ := model.Tokens(s, w); written(r) != want {
			t.Fatalf("R3: sample %d: %s, then %s", i, want, written(r))
		}
	}
}

// R4: calls do not depend on earlier ones.
func TestR4Repeats(t *testing.T) {
	l := samples(t, 100)
	d := dice(123456789)
	w := d.text(12)
	var want []string
	for _, s := range l {
		r, _ := model.Tokens(s, w)
		rule, n := model.Pick(s, w, 5, 1)
		want = append(want, fmt.Sprint(written(r), rule, n, model.Head(s.Rules[0], w[:3])))
	}
	for i, s := range slices.Backward(l) {
		n0 := model.Head(s.Rules[0], w[:3])
		rule, n := model.Pick(s, w, 5, 1)
		r, _ := model.Tokens(s, w)
		if got := fmt.Sprint(written(r), rule, n, n0); got != want[i] {
			t.Fatalf("R4: sample %d: %s, then %s", i, want[i], got)
		}
	}
}
