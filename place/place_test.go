package place_test

import (
	"fmt"
	"math"
	"reflect"
	"slices"
	"testing"

	"heckle/api"
	"heckle/match"
	"heckle/place"
	"heckle/rx"
)

// written is what the tests compare: it makes no difference between empty lists.
func written(p api.Places) string {
	return fmt.Sprint(p.Sets, p.First, p.Last, p.Follow, p.Null)
}

// of is Of for a valid pattern.
func of(t *testing.T, x api.Rx) api.Places {
	t.Helper()
	p, e := place.Of(x)
	if e != api.OK {
		t.Fatalf("J1: Of(%v): error %d", x, e)
	}
	return p
}

// holds compares with the oracle.
func holds(t *testing.T, x api.Rx) {
	t.Helper()
	want := written(oraclePlaces(x))
	if got := written(of(t, x)); got != want {
		t.Fatalf("J1: Of(%v): %s, want %s", x, got, want)
	}
}

// The sets are left out here: First, Last, Follow and Null.
func TestJ1Kinds(t *testing.T) {
	for text, want := range map[string]string{
		"()":            "[] [] [] true",
		"()()":          "[] [] [] true",
		"()|()":         "[] [] [] true",
		"()+":           "[] [] [] true",
		"a":             "[0] [0] [[]] false",
		"aa":            "[0] [1] [[1] []] false",
		"abc":           "[0] [2] [[1] [2] []] false",
		"a()b":          "[0] [1] [[1] []] false",
		"()ab":          "[0] [1] [[1] []] false",
		"ab()":          "[0] [1] [[1] []] false",
		"a?b":           "[0 1] [1] [[1] []] false",
		"ab?":           "[0] [0 1] [[1] []] false",
		"a?b?c?":        "[0 1 2] [0 1 2] [[1 2] [2] []] true",
		"ab?c":          "[0] [2] [[1 2] [2] []] false",
		"ab?c?d":        "[0] [3] [[1 2 3] [2 3] [3] []] false",
		"(a|)b":         "[0 1] [1] [[1] []] false",
		"a|b|c":         "[0 1 2] [0 1 2] [[] [] []] false",
		"a|a":           "[0 1] [0 1] [[] []] false",
		"a||b":          "[0 1] [0 1] [[] []] true",
		"|a":            "[0] [0] [[]] true",
		"ab|cd":         "[0 2] [1 3] [[1] [] [3] []] false",
		"ab|c?d?":       "[0 2 3] [1 2 3] [[1] [] [3] []] true",
		"a(b|c)d":       "[0] [3] [[1 2] [3] [3] []] false",
		"(ab|c)(d|ef)":  "[0 2] [3 5] [[1] [3 4] [3 4] [] [5] []] false",
		"a?":            "[0] [0] [[]] true",
		"a*":            "[0] [0] [[0]] true",
		"a+":            "[0] [0] [[0]] false",
		"a**":           "[0] [0] [[0]] true",
		"a++":           "[0] [0] [[0]] false",
		"a?+":           "[0] [0] [[0]] true",
		"a+?":           "[0] [0] [[0]] true",
		"a+a+":          "[0] [1] [[0 1] [1]] false",
		"a*a*":          "[0 1] [0 1] [[0 1] [1]] true",
		"(ab)*":         "[0] [1] [[1] [0]] true",
		"(a?b?)+":       "[0 1] [0 1] [[0 1] [0 1]] true",
		"(ab?)+":        "[0] [0 1] [[0 1] [0]] false",
		"(a|b)*c":       "[0 1 2] [2] [[0 1 2] [0 1 2] []] false",
		"(a*b*)*":       "[0 1] [0 1] [[0 1] [0 1]] true",
		"(a+b)+c":       "[0] [2] [[0 1] [0 2] []] false",
		"((ab)+|c)+":    "[0 2] [1 2] [[1] [0 2] [0 2]] false",
		"a{1}":          "[0] [0] [[]] false",
		"a{3}":          "[0] [2] [[1] [2] []] false",
		"a{1,}":         "[0] [0] [[0]] false",
		"a{3,}":         "[0] [2] [[1] [2] [2]] false",
		"a{0,1}":        "[0] [0] [[]] true",
		"a{0,3}":        "[0] [0 1 2] [[1] [2] []] true",
		"a{1,2}":        "[0] [0 1] [[1] []] false",
		"a{2,4}":        "[0] [1 2 3] [[1] [2] [3] []] false",
		"ba{0,2}c":      "[0] [3] [[1 3] [2 3] [3] []] false",
		"ba{1,2}c":      "[0] [3] [[1] [2 3] [3] []] false",
		"ba{2,}c":       "[0] [3] [[1] [2] [2 3] []] false",
		"ba{0,}c":       "[0] [2] [[1 2] [1 2] []] false",
		"(ab){2}":       "[0] [3] [[1] [2] [3] []] false",
		"(ab){2,}":      "[0] [3] [[1] [2] [3] [2]] false",
		"(ab){0,2}":     "[0] [1 3] [[1] [2] [3] []] true",
		"(ab){1,2}":     "[0] [1 3] [[1] [2] [3] []] false",
		"(a?){2}":       "[0 1] [0 1] [[1] []] true",
		"(a?){2,}":      "[0 1] [0 1] [[1] [1]] true",
		"(a?){1,3}":     "[0 1 2] [0 1 2] [[1 2] [2] []] true",
		"(a?){0,2}":     "[0 1] [0 1] [[1] []] true",
		"(a*){2}":       "[0 1] [0 1] [[0 1] [1]] true",
		"(a+){2}":       "[0] [1] [[0 1] [1]] false",
		"(a+){1,2}":     "[0] [0 1] [[0 1] [1]] false",
		"(a{2}){2}":     "[0] [3] [[1] [2] [3] []] false",
		"(a{1,2}){1,2}": "[0] [0 1 2 3] [[1 2] [2] [3] []] false",
		"(a{2,}){2,}":   "[0] [3] [[1] [1 2] [3] [2 3]] false",
		"(a{0,2})+":     "[0] [0 1] [[0 1] [0]] true",
		"(a|b){2}":      "[0 1] [2 3] [[2 3] [2 3] [] []] false",
		"()a*()":        "[0] [0] [[0]] true",
		"(a()|()){2,}b": "[0 1 2] [2] [[1 2] [1 2] []] false",
	} {
		p := of(t, parsed(t, text))
		if got := fmt.Sprint(p.First, p.Last, p.Follow, p.Null); got != want {
			t.Errorf("J1: %q: %s, want %s", text, got, want)
		}
		holds(t, parsed(t, text))
	}
}

// Places have the sets of the Bytes from left to right, in each copy again.
func TestJ1Sets(t *testing.T) {
	for text, want := range map[string]string{
		"()":                  "",
		"a":                   "a",
		"cab":                 "cab",
		"aa|a":                "aaa",
		"(c|ab)d":             "cabd",
		"(ab)*c":              "abc",
		"(ab){2}c":            "ababc",
		"(ab){2,}c":           "ababc",
		"(ab){1,3}c":          "abababc",
		"(ab){0,3}c":          "abababc",
		"d(a{2}|b+c?){2}e{3}": "daabcaabceee",
		"(a(b{0,2}c){1,2})+d": "abbcbbcd",
	} {
		var sets []api.Set
		for _, letter := range want {
			sets = append(sets, in(int(letter)).Set)
		}
		if p := of(t, parsed(t, text)); !slices.Equal(p.Sets, sets) {
			t.Errorf("J1: %q: the sets are %v", text, p.Sets)
		}
	}
	all := api.Set{math.MaxUint64, math.MaxUint64, math.MaxUint64, math.MaxUint64}
	x := cat(api.Rx{Kind: api.Bytes, Set: all}, in(0), in(255), in(0, 63, 64, 127, 128, 191, 192, 255))
	p := of(t, x)
	if want := []api.Set{all, in(0).Set, in(255).Set, x.Kids[3].Set}; !slices.Equal(p.Sets, want) {
		t.Errorf("J1: the sets are %v", p.Sets)
	}
}

// What follows is determined regardless of the sets: which bytes they have makes no difference.
func TestJ1RegardlessOfSets(t *testing.T) {
	for i, x := range samples(300) {
		want := of(t, x)
		for _, letters := range []string{"a", "ab", "abcdefghijklmnopqrstuvwxyz"} {
			p := of(t, lettered(x, letters))
			p.Sets = want.Sets
			if written(p) != written(want) {
				t.Fatalf("J1: sample %d, by %q: %s, want %s", i, letters, written(p), written(want))
			}
		}
	}
}

func TestJ1EveryCount(t *testing.T) {
	for _, c := range counts() {
		n := max(c[0], c[1], 1)
		var want api.Places
		want.First, want.Null = []int{0}, c[0] == 0
		for i := range n {
			want.Sets = append(want.Sets, in('a').Set)
			next := []int{i + 1}
			if i == n-1 && c[1] == -1 {
				next = []int{i}
			} else if i == n-1 {
				next = nil
			}
			want.Follow = append(want.Follow, next)
			if i+1 >= c[0] {
				want.Last = append(want.Last, i)
			}
		}
		if got := written(of(t, rep(in('a'), c[0], c[1]))); got != written(want) {
			t.Errorf("J1: a from %d to %d: %s", c[0], c[1], got)
		}
		for _, text := range []string{"a?", "a+", "a*", "ab", "ab?", "a?b", "a?b?", "a|b", "ab||c", "(ab)+", "a{2,3}"} {
			holds(t, rep(lettered(parsed(t, text), "abcdefgh"), c[0], c[1]))
			holds(t, cat(in('x'), rep(parsed(t, text), c[0], c[1]), in('y')))
		}
	}
}

func TestJ1AgainstTheOracle(t *testing.T) {
	l := small()
	if len(l) < 900 {
		t.Fatalf("J1: only %d small patterns", len(l))
	}
	for _, x := range l {
		x = lettered(x, "abcdefgh")
		holds(t, x)
		for _, c := range [][2]int{{0, -1}, {1, -1}, {2, -1}, {2, 2}, {0, 3}, {1, 3}} {
			holds(t, rep(x, c[0], c[1]))
		}
	}
	great := 0
	for _, x := range samples(1500) {
		holds(t, x)
		if rx.Size(x) >= 50 {
			great++
		}
	}
	if great < 100 {
		t.Errorf("J1: only %d samples are great", great)
	}
}

func TestJ1WrongPatterns(t *testing.T) {
	for name, x := range wrong() {
		if p, e := place.Of(x); e != api.ErrArg || !reflect.DeepEqual(p, api.Places{}) {
			t.Errorf("J1: %s: error %d, %s", name, e, written(p))
		}
	}
}

// The greatest patterns that are valid.
func TestJ1Limits(t *testing.T) {
	a := in('a')
	for name, x := range map[string]api.Rx{
		"20 levels":                 reps(a, 19, 0, 1),
		"20 levels of loops":        reps(a, 19, 0, -1),
		"20 levels in turn":         cat(in('b'), reps(reps(a, 9, 1, -1), 9, 0, 1)),
		"Size 200":                  rep(rep(a, 10, 10), 20, 20),
		"Size 200, of options":      rep(rep(a, 0, 10), 0, 20),
		"Size 200, of loops":        rep(rep(a, 10, -1), 20, -1),
		"Size 200, all may be left": rep(rep(rep(a, 0, 1), 10, 10), 20, 20),
		"200 in a Cat":              cat(slices.Repeat([]api.Rx{a}, 200)...),
		"200 options in a Cat":      cat(slices.Repeat([]api.Rx{rep(a, 0, 1)}, 200)...),
		"200 in an Alt, repeated":   rep(alt(slices.Repeat([]api.Rx{a}, 200)...), 0, -1),
		"1000 patterns in a Cat":    cat(empties(a, 999)...),
		"1000 patterns in an Alt":   alt(empties(a, 999)...),
		"200 copies of 980":         rep(rep(reps(cat(empties(a, 980)...), 16, 1, 1), 10, 10), 20, 20),
		"200 copies of 980, or not": rep(rep(reps(alt(empties(a, 980)...), 16, 1, -1), 10, 10), 20, 20),
		"a great Cat, in loops":     reps(cat(slices.Repeat([]api.Rx{rep(a, 0, 1)}, 200)...), 17, 0, -1),
		"1000 patterns, of options": cat(append(slices.Repeat([]api.Rx{rep(a, 0, 1)}, 200), empties(empty(), 599)...)...),
	} {
		if p := of(t, x); written(p) != written(oraclePlaces(x)) {
			t.Errorf("J1: %s: %s", name, written(p))
		}
	}
}

// What has no places is repeated 20^19 times in no time, and makes no difference to what is beside it.
func TestJ1NothingOften(t *testing.T) {
	for name, x := range map[string]api.Rx{
		"empty":            reps(empty(), 19, 20, 20),
		"to 20":            reps(empty(), 19, 0, 20),
		"20 on":            reps(empty(), 19, 20, -1),
		"a Cat":            reps(cat(empty(), empty()), 18, 20, 20),
		"an Alt":           reps(alt(empty(), empty()), 18, 19, 20),
		"in a Cat":         cat(reps(empty(), 18, 20, 20), reps(empty(), 18, 20, -1)),
		"wide and nested":  reps(cat(empties(rep(alt(empties(empty(), 400)...), 20, 20), 500)...), 16, 20, 20),
		"one level of few": rep(empty(), 1, 1),
	} {
		if got := written(of(t, x)); got != "[] [] [] [] true" {
			t.Errorf("J1: %s: %s", name, got)
		}
	}
	a, nothing := in('a'), reps(empty(), 16, 20, 20)
	for _, pair := range [][2]api.Rx{
		{cat(nothing, a, nothing), a},
		{alt(nothing, a, nothing), rep(a, 0, 1)},
	} {
		for _, c := range [][2]int{{0, -1}, {2, -1}, {20, 20}, {0, 20}} {
			got, want := of(t, rep(pair[0], c[0], c[1])), of(t, rep(pair[1], c[0], c[1]))
			if written(got) != written(want) {
				t.Errorf("J1: beside nothing, %v: %s, want %s", c, written(got), written(want))
			}
		}
	}
}

func TestJ2Size(t *testing.T) {
	for _, x := range append(small(), samples(2000)...) {
		p := of(t, x)
		if n := rx.Size(x); len(p.Sets) != n || len(p.Follow) != n {
			t.Fatalf("J2: %v: %d places, Follow of %d, Size %d", x, len(p.Sets), len(p.Follow), n)
		}
		if p.Null != rx.Null(x) {
			t.Fatalf("J2: %v: Null is %t", x, p.Null)
		}
	}
}

// matches reports whether there is a sequence of places for the text.
func matches(p api.Places, text string) bool {
	if text == "" {
		return p.Null
	}
	next := p.First
	var here []int
	for i := range len(text) {
		b := text[i]
		here = nil
		for _, at := range next {
			if p.Sets[at][b/64]>>(b%64)&1 == 1 && !slices.Contains(here, at) {
				here = append(here, at)
			}
		}
		next = nil
		for _, at := range here {
			next = append(next, p.Follow[at]...)
		}
	}
	return slices.ContainsFunc(here, func(at int) bool { return slices.Contains(p.Last, at) })
}

func TestJ2Texts(t *testing.T) {
	var l []api.Rx
	for _, x := range small() {
		l = append(l, lettered(x, "aab"))
	}
	for _, text := range []string{"[^a]+b", `\x00|\xff*`, `[\x80-\xff]+a?`, ".*b", "(a|ab)(ba|b)?", "(aab?){2,}", "(a{2}|b){1,2}"} {
		l = append(l, parsed(t, text))
	}
	yes, no := 0, 0
	inputs := append(texts("ab", 5), "c", "\x00", "\xff\xff", "\x80\x90a", "\n", "c\nb", "\nb", "aababa", "bababa", "aabbbba")
	for _, x := range append(l, samples(400)...) {
		p := of(t, x)
		for _, text := range inputs {
			want := match.Match(x, text)
			if got := matches(p, text); got != want {
				t.Fatalf("J2: %v, %q: %t", x, text, got)
			}
			if want {
				yes++
			} else {
				no++
			}
		}
	}
	if yes < 5000 || no < 5000 {
		t.Errorf("J2: only %d texts were matched, and %d not", yes, no)
	}
}

// lists are all lists of places in an answer.
func lists(p api.Places) [][]int {
	return append([][]int{p.First, p.Last}, p.Follow...)
}

// apart reports whether no two lists share memory, not even that behind them.
func apart(l [][]int) bool {
	for i, list := range l {
		whole := list[:cap(list)]
		kept := slices.Clone(whole)
		for j := range whole {
			whole[j] = -7
		}
		for j, other := range l {
			if i != j && slices.Contains(other[:cap(other)], -7) {
				return false
			}
		}
		copy(whole, kept)
	}
	return true
}

// R3: arguments are not modified, nor memory behind them, and answers are new memory.
func TestR3Memory(t *testing.T) {
	for i, x := range append(samples(200), small()...) {
		x.Kids = append(slices.Clone(x.Kids), in('z'), empty())[:len(x.Kids)]
		before := clone(x)
		p := of(t, x)
		if !reflect.DeepEqual(clone(x), before) {
			t.Fatalf("R3: sample %d: the pattern was modified", i)
		}
		if !apart(lists(p)) {
			t.Fatalf("R3: sample %d: lists share memory: %s", i, written(p))
		}
		want := written(p)
		clear(p.Sets)
		for _, list := range lists(p) {
			clear(list)
		}
		if got := written(of(t, x)); got != want {
			t.Fatalf("R3: sample %d: %s, then %s", i, want, got)
		}
	}
}

// R4: calls do not depend on earlier ones.
func TestR4Repeats(t *testing.T) {
	l := samples(200)
	var want []string
	for _, x := range l {
		want = append(want, written(of(t, x)))
	}
	for i, x := range slices.Backward(l) {
		place.Of(api.Rx{})
		if got := written(of(t, x)); got != want[i] {
			t.Fatalf("R4: sample %d: %s, then %s", i, want[i], got)
		}
	}
}
