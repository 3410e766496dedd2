package match_test

import (
	"fmt"
	"math"
	"reflect"
	"regexp"
	"slices"
	"strings"
	"testing"

	"heckle/api"
	"heckle/match"
	"heckle/rx"
)

// in builds Bytes of single bytes.
func in(list ...int) api.Rx {
	var s api.Set
	for _, b := range list {
		s[b/64] |= 1 << (b % 64)
	}
	return api.Rx{Kind: api.Bytes, Set: s}
}

func all() api.Rx {
	return api.Rx{Kind: api.Bytes, Set: api.Set{math.MaxUint64, math.MaxUint64, math.MaxUint64, math.MaxUint64}}
}

func empty() api.Rx { return api.Rx{Kind: api.Empty} }

func cat(kids ...api.Rx) api.Rx { return api.Rx{Kind: api.Cat, Kids: kids} }

func alt(kids ...api.Rx) api.Rx { return api.Rx{Kind: api.Alt, Kids: kids} }

func rep(x api.Rx, lo, hi int) api.Rx {
	return api.Rx{Kind: api.Rep, Lo: lo, Hi: hi, Kids: []api.Rx{x}}
}

func many(x api.Rx, n int) []api.Rx { return slices.Repeat([]api.Rx{x}, n) }

// nest encloses x in n patterns.
func nest(x api.Rx, n int, enclose func(x api.Rx) api.Rx) api.Rx {
	for range n {
		x = enclose(x)
	}
	return x
}

func from(first, last int) []int {
	var l []int
	for i := first; i <= last; i++ {
		l = append(l, i)
	}
	return l
}

// dice are numbers that are the same in each run.
type dice uint64

func (d *dice) roll(n int) int {
	*d ^= *d << 13
	*d ^= *d >> 7
	*d ^= *d << 17
	return int(uint64(*d) >> 11 % uint64(n))
}

// any makes a pattern as in the table, of bytes from a to c.
func (d *dice) any(levels, barred int) api.Rx {
	kind := api.Empty + d.roll(5)
	if levels == 1 {
		kind = api.Bytes
	}
	switch {
	case kind == barred || kind == api.Bytes:
		first := 'a' + d.roll(3)
		return in(first, first+d.roll('d'-first))
	case kind == api.Empty:
		return empty()
	case kind == api.Rep:
		lo := d.roll(3)
		hi := max(lo, 1) + d.roll(2)
		if d.roll(2) == 0 {
			hi = -1
		}
		return rep(d.any(levels-1, 0), lo, hi)
	}
	x := api.Rx{Kind: kind}
	for range 2 + d.roll(2) {
		x.Kids = append(x.Kids, d.any(levels-1, kind))
	}
	return x
}

func (d *dice) text(n int) string {
	text := make([]byte, n)
	for i := range text {
		text[i] = byte('a' + d.roll(3))
	}
	return string(text)
}

// word makes a text that x matches.
func (d *dice) word(x api.Rx) string {
	switch x.Kind {
	case api.Bytes:
		for b := range 256 {
			if x.Set[b/64]>>(b%64)&1 == 1 {
				return string(rune(b))
			}
		}
	case api.Alt:
		return d.word(x.Kids[d.roll(len(x.Kids))])
	}
	kids := x.Kids
	if x.Kind == api.Rep {
		kids = many(x.Kids[0], x.Lo+d.roll(max(x.Hi-x.Lo+1, 2)))
	}
	s := ""
	for _, kid := range kids {
		s += d.word(kid)
	}
	return s
}

// samples are valid patterns.
func samples(n, levels int) []api.Rx {
	d := dice(88172645463325252)
	var l []api.Rx
	for len(l) < n {
		if x := d.any(1+len(l)%levels, 0); rx.Right(x) {
			l = append(l, x)
		}
	}
	return l
}

// texts are all texts of the given bytes, up to the given length.
func texts(bytes string, most int) []string {
	l := []string{""}
	for i := 0; len(l[i]) < most; i++ {
		for _, b := range bytes {
			l = append(l, l[i]+string(b))
		}
	}
	return l
}

// defined is the column 'matches' of the table of the kinds, word for word.
func defined(x api.Rx, text string) bool {
	switch x.Kind {
	case api.Empty:
		return text == ""
	case api.Bytes:
		return len(text) == 1 && x.Set[text[0]/64]>>(text[0]%64)&1 == 1
	case api.Cat:
		return inTurn(x.Kids, text)
	case api.Alt:
		return slices.ContainsFunc(x.Kids, func(kid api.Rx) bool { return defined(kid, text) })
	}
	most := x.Hi
	if most == -1 {
		// Of more texts than these, more than Lo are empty, and may as well be left out.
		most = x.Lo + len(text)
	}
	for n := x.Lo; n <= most; n++ {
		if inTurn(many(x.Kids[0], n), text) {
			return true
		}
	}
	return false
}

func inTurn(l []api.Rx, text string) bool {
	if len(l) == 0 {
		return text == ""
	}
	for i := range len(text) + 1 {
		if defined(l[0], text[:i]) && inTurn(l[1:], text[i:]) {
			return true
		}
	}
	return false
}

// library returns whether the library's expressions match the text.
func library(t *testing.T, x api.Rx) func(text string) bool {
	text, e := rx.Print(x)
	if e != api.OK {
		t.Fatalf("Print: %v", e)
	}
	return regexp.MustCompile(`\A(?:` + text + `)\z`).MatchString
}

func holds(t *testing.T, name string, x api.Rx, s string, at int, want []int) {
	t.Helper()
	if got := match.Ends(x, s, at); !slices.Equal(got, want) {
		t.Fatalf("%s: Ends of %v from %d of %.50q: %v, want %v", name, x, at, s, got, want)
	}
}

func TestE1EndsOfKinds(t *testing.T) {
	a, b, e := in('a'), in('b'), empty()
	for i, c := range []struct {
		x    api.Rx
		s    string
		at   int
		want []int
	}{
		{e, "", 0, []int{0}},
		{e, "ab", 0, []int{0}},
		{e, "ab", 1, []int{1}},
		{e, "ab", 2, []int{2}},
		{a, "", 0, nil},
		{a, "ab", 0, []int{1}},
		{a, "ab", 1, nil},
		{a, "ab", 2, nil},
		{b, "ab", 1, []int{2}},
		{in('a', 'b'), "ab", 1, []int{2}},
		{cat(a, b), "ab", 0, []int{2}},
		{cat(a, b), "ba", 0, nil},
		{cat(a, b), "aba", 2, nil},
		{cat(a, e, b), "ab", 0, []int{2}},
		{cat(e, e), "ab", 1, []int{1}},
		{cat(e, a), "ab", 0, []int{1}},
		{cat(a, e), "ab", 0, []int{1}},
		{cat(rep(a, 0, -1), a), "aaa", 0, []int{1, 2, 3}},
		{cat(rep(a, 0, -1), rep(b, 0, -1)), "aabba", 0, []int{0, 1, 2, 3, 4}},
		{alt(a, b), "ab", 0, []int{1}},
		{alt(a, b), "ab", 1, []int{2}},
		{alt(a, a), "ab", 0, []int{1}},
		{alt(a, cat(a, b)), "ab", 0, []int{1, 2}},
		{alt(cat(a, b), a), "ab", 0, []int{1, 2}},
		{alt(cat(a, b), e), "ab", 0, []int{0, 2}},
		{alt(e, e), "ab", 0, []int{0}},
		{alt(e, a, e), "ab", 0, []int{0, 1}},
		{rep(a, 0, 1), "aaa", 0, []int{0, 1}},
		{rep(a, 1, 1), "aaa", 0, []int{1}},
		{rep(a, 0, 2), "aaa", 0, []int{0, 1, 2}},
		{rep(a, 1, 2), "aaa", 0, []int{1, 2}},
		{rep(a, 2, 2), "aaa", 0, []int{2}},
		{rep(a, 2, 5), "aaa", 0, []int{2, 3}},
		{rep(a, 4, 5), "aaa", 0, nil},
		{rep(a, 0, -1), "aaab", 0, []int{0, 1, 2, 3}},
		{rep(a, 1, -1), "aaab", 0, []int{1, 2, 3}},
		{rep(a, 2, -1), "aaab", 0, []int{2, 3}},
		{rep(a, 3, -1), "aaab", 0, []int{3}},
		{rep(a, 4, -1), "aaab", 0, nil},
		{rep(a, 0, -1), "aaab", 3, []int{3}},
		{rep(a, 1, -1), "aaab", 3, nil},
		{rep(cat(a, b), 0, -1), "ababa", 0, []int{0, 2, 4}},
		{rep(cat(a, b), 0, -1), "ababa", 1, []int{1}},
		{rep(cat(a, b), 0, -1), "ababa", 2, []int{2, 4}},
		{rep(alt(a, e), 3, 3), "aaaa", 0, []int{0, 1, 2, 3}},
		{rep(alt(cat(a, a), cat(a, a, a)), 2, 2), strings.Repeat("a", 9), 0, []int{4, 5, 6}},
		{rep(alt(cat(a, a), cat(a, a, a)), 2, 3), strings.Repeat("a", 9), 0, []int{4, 5, 6, 7, 8, 9}},
		{rep(alt(cat(a, a, a), rep(a, 5, 5)), 0, -1), strings.Repeat("a", 12), 0, []int{0, 3, 5, 6, 8, 9, 10, 11, 12}},
		{rep(rep(a, 2, 2), 0, -1), "aaaaa", 0, []int{0, 2, 4}},
		{rep(rep(a, 0, -1), 3, 3), "aab", 0, []int{0, 1, 2}},
		{rep(rep(a, 1, -1), 2, -1), "aaab", 0, []int{2, 3}},
		{rep(rep(a, 0, 1), 0, 1), "aaa", 0, []int{0, 1}},
		{rep(rep(a, 0, 1), 1, -1), "aaa", 0, []int{0, 1, 2, 3}},
		{rep(rep(a, 1, -1), 0, 1), "aaa", 0, []int{0, 1, 2, 3}},
		{rep(rep(a, 1, -1), 1, -1), "aaa", 0, []int{1, 2, 3}},
		{rep(rep(a, 2, -1), 1, -1), "aaa", 0, []int{2, 3}},
		{rep(alt(a, e, b), 1, -1), "abc", 0, []int{0, 1, 2}},
		{rep(alt(a, b), 1, -1), "abc", 0, []int{1, 2}},
		{alt(cat(a, e), cat(e, b)), "ab", 0, []int{1}},
		{rep(alt(rep(a, 1, -1), e), 2, 2), "aaa", 0, []int{0, 1, 2, 3}},
		{cat(rep(a, 1, 1), e), "aaa", 0, []int{1}},
		{rep(e, 0, -1), "aa", 1, []int{1}},
		{rep(e, 20, 20), "aa", 1, []int{1}},
		{rep(cat(e, e), 3, -1), "aa", 2, []int{2}},
	} {
		if got := match.Ends(c.x, c.s, c.at); !slices.Equal(got, c.want) {
			t.Errorf("%d: Ends from %d of %q: %v, want %v", i, c.at, c.s, got, c.want)
		}
	}
}

func TestE1EveryByte(t *testing.T) {
	for b := range 256 {
		for c := range 256 {
			var want []int
			if b == c {
				want = []int{1}
			}
			holds(t, "one byte", in(b), string([]byte{byte(c)}), 0, want)
		}
		holds(t, "all bytes", all(), string([]byte{'a', byte(b)}), 1, []int{2})
	}
}

func TestE1EveryCount(t *testing.T) {
	s := strings.Repeat("a", 25)
	for lo := range 21 {
		holds(t, "no most", rep(in('a'), lo, -1), s, 0, from(lo, 25))
		for hi := max(lo, 1); hi <= 20; hi++ {
			holds(t, "counted", rep(in('a'), lo, hi), s, 0, from(lo, hi))
			holds(t, "counted, ahead of the end", rep(in('a'), lo, hi), s, 15, from(15+lo, min(25, 15+hi)))
		}
	}
}

func TestE1AgainstTheDefinition(t *testing.T) {
	l := texts("abc", 3)
	for _, s := range append(texts("ab", 5), "abcab", "cabac", "bbabc") {
		if len(s) > 3 {
			l = append(l, s)
		}
	}
	for _, x := range samples(400, 4) {
		for _, s := range l {
			for at := range len(s) + 1 {
				var want []int
				for e := at; e <= len(s); e++ {
					if defined(x, s[at:e]) {
						want = append(want, e)
					}
				}
				holds(t, "by definition", x, s, at, want)
			}
		}
	}
}

func TestE1AgainstTheLibrary(t *testing.T) {
	d := dice(2463534242)
	for _, x := range samples(600, 8) {
		matches := library(t, x)
		s := d.text(9)
		at := d.roll(10)
		s += d.word(x) + d.word(x) + d.text(20)
		var want []int
		for e := at; e <= len(s); e++ {
			if matches(s[at:e]) {
				want = append(want, e)
			}
		}
		holds(t, "by the library", x, s, at, want)
	}
}

// wrong are patterns that are not valid.
func wrong() map[string]api.Rx {
	a := in('a')
	endless := make([]api.Rx, 2)
	endless[0], endless[1] = api.Rx{Kind: api.Alt, Kids: endless}, empty()
	inOption := func(x api.Rx) api.Rx { return rep(x, 0, 1) }
	return map[string]api.Rx{
		"zero":               {},
		"kind -1":            {Kind: -1},
		"kind 6":             {Kind: 6},
		"no bytes":           {Kind: api.Bytes},
		"empty with a set":   {Kind: api.Empty, Set: a.Set},
		"empty with a kid":   {Kind: api.Empty, Kids: []api.Rx{a}},
		"bytes with a kid":   {Kind: api.Bytes, Set: a.Set, Kids: []api.Rx{a}},
		"cat of none":        cat(),
		"cat of one":         cat(a),
		"cat in cat":         cat(a, cat(a, a)),
		"alt of one":         alt(a),
		"alt in alt":         alt(a, alt(a, a)),
		"rep of none":        {Kind: api.Rep, Hi: 1},
		"rep of two":         {Kind: api.Rep, Hi: 1, Kids: []api.Rx{a, a}},
		"rep of 0 to 0":      rep(a, 0, 0),
		"rep of 2 to 1":      rep(a, 2, 1),
		"rep of 0 to 21":     rep(a, 0, 21),
		"rep of 21 on":       rep(a, 21, -1),
		"rep of -1 on":       rep(a, -1, -1),
		"rep of 0 to -2":     rep(a, 0, -2),
		"rep of the most":    rep(a, math.MaxInt, math.MaxInt),
		"wrong within":       alt(a, empty(), rep(cat(a, api.Rx{}), 0, -1)),
		"21 levels":          nest(a, 20, inOption),
		"21 levels of empty": nest(empty(), 20, inOption),
		"Size 201":           alt(rep(rep(a, 10, 10), 20, 20), a),
		"1001 patterns":      alt(many(empty(), 1000)...),
		"endless":            endless[0],
		"deep":               nest(a, 300000, inOption),
	}
}

func TestE1WrongArguments(t *testing.T) {
	for name, x := range wrong() {
		for _, s := range []string{"", "a", "aa"} {
			for at := range len(s) + 1 {
				holds(t, name, x, s, at, nil)
			}
		}
	}
	for _, x := range []api.Rx{empty(), in('a'), rep(all(), 0, -1)} {
		for _, s := range []string{"", "a", "aaa"} {
			for _, at := range []int{-1, -2, len(s) + 1, len(s) + 2, math.MinInt, math.MaxInt, math.MinInt32, math.MaxInt32, 1 << 32, -1 << 32} {
				holds(t, "not in the text", x, s, at, nil)
			}
		}
	}
}

func TestE1LongTexts(t *testing.T) {
	s := strings.Repeat("a", 10001)
	for _, at := range []int{0, 1, 9999, 10000} {
		holds(t, "10000 bytes", empty(), s[1:], at, []int{at})
		holds(t, "10000 bytes", rep(in('a'), 0, -1), s[1:], at, from(at, 10000))
	}
	for _, at := range []int{0, 1, 10000, 10001} {
		holds(t, "10001 bytes", empty(), s, at, nil)
		holds(t, "10001 bytes", rep(in('a'), 0, -1), s, at, nil)
	}
}

// Patterns whose texts can be divided in a great many ways end in time.
func TestE1ManyWays(t *testing.T) {
	a, z := in('a'), in('z')
	s := strings.Repeat("a", 10000)
	any := rep(all(), 0, -1)
	hopeless := alt(a, cat(a, any, z))
	for name, c := range map[string]struct {
		x    api.Rx
		want []int
	}{
		"20 levels of any number":  {nest(a, 19, func(x api.Rx) api.Rx { return rep(x, 0, -1) }), from(0, 10000)},
		"20 levels of one or more": {nest(a, 19, func(x api.Rx) api.Rx { return rep(x, 1, -1) }), from(1, 10000)},
		"20 levels of options":     {nest(a, 19, func(x api.Rx) api.Rx { return rep(x, 0, 1) }), []int{0, 1}},
		"alternatives":             {rep(alt(a, cat(a, a), cat(a, a, a)), 1, -1), from(1, 10000)},
		"a rest read in vain":      {rep(hopeless, 0, -1), from(0, 10000)},
		"the same, nested":         {rep(alt(a, cat(rep(hopeless, 0, -1), z)), 0, -1), from(0, 10000)},
		"any, thrice":              {cat(any, a, any, a, any, a), from(3, 10000)},
		"Size 200":                 {rep(rep(rep(a, 0, 1), 10, 10), 20, 20), from(0, 200)},
		"options in vain":          {rep(alt(a, cat(a, rep(rep(rep(a, 0, 1), 10, 10), 9, 9), z)), 0, -1), from(0, 10000)},
		"nested, 40 times":         {rep(rep(nest(a, 17, func(x api.Rx) api.Rx { return rep(x, 0, -1) }), 10, 10), 4, 4), from(0, 10000)},
		"empty within":             {rep(cat(a, rep(empty(), 0, -1), rep(rep(empty(), 20, 20), 20, 20)), 0, -1), from(0, 10000)},
		"990 empty in a Cat":       {rep(rep(cat(append(many(empty(), 990), a)...), 20, 20), 10, 10), []int{200}},
		"990 empty in an Alt":      {rep(rep(alt(append(many(empty(), 990), a)...), 20, 20), 10, 10), from(0, 200)},
	} {
		holds(t, name, c.x, s, 0, c.want)
	}
	nothing := nest(empty(), 19, func(x api.Rx) api.Rx { return rep(x, 20, 20) })
	holds(t, "nothing, 20^19 times", nothing, s, 77, []int{77})
	holds(t, "beside it", cat(a, nest(empty(), 18, func(x api.Rx) api.Rx { return rep(x, 20, 20) })), s, 77, []int{78})
}

func TestE2Match(t *testing.T) {
	for _, x := range samples(400, 4) {
		for _, s := range texts("ab", 5) {
			if got, want := match.Match(x, s), defined(x, s); got != want {
				t.Fatalf("Match of %v, %q: %t", x, s, got)
			}
		}
	}
	d := dice(362436069)
	yes := 0
	for i, x := range samples(1500, 8) {
		s := d.word(x)
		if i%3 == 0 {
			s = s[:len(s)/2] + d.text(1) + s[len(s)/2:]
		}
		want := library(t, x)(s)
		if got := match.Match(x, s); got != want {
			t.Fatalf("Match of %v, %q: %t", x, s, got)
		}
		if want {
			yes++
		}
	}
	if yes < 1000 || yes > 1450 {
		t.Errorf("%d texts were matched", yes)
	}
}

func TestE2AllOfTheText(t *testing.T) {
	a, b := in('a'), in('b')
	for i, c := range []struct {
		x    api.Rx
		s    string
		want bool
	}{
		{empty(), "", true},
		{empty(), "a", false},
		{a, "", false},
		{a, "a", true},
		{a, "aa", false},
		{cat(a, b), "ab", true},
		{cat(a, b), "abb", false},
		{cat(a, b), "bab", false},
		{alt(cat(a, b), a), "ab", true},
		{alt(a, cat(a, b)), "ab", true},
		{rep(a, 0, -1), "", true},
		{rep(a, 0, -1), "aab", false},
		{rep(a, 2, 3), "a", false},
		{rep(a, 2, 3), "aaa", true},
		{rep(a, 2, 3), "aaaa", false},
		{rep(all(), 0, -1), "\x00\n\xff", true},
	} {
		if got := match.Match(c.x, c.s); got != c.want {
			t.Errorf("%d: Match of %q: %t", i, c.s, got)
		}
	}
}

func TestE2WrongArguments(t *testing.T) {
	for name, x := range wrong() {
		for _, s := range []string{"", "a", "aa"} {
			if match.Match(x, s) {
				t.Errorf("%s: matches %q", name, s)
			}
		}
	}
	for _, x := range []api.Rx{rep(in('a'), 0, -1), rep(all(), 1, -1)} {
		s := strings.Repeat("a", 10001)
		if !match.Match(x, s[1:]) {
			t.Error("does not match 10000 bytes")
		}
		if match.Match(x, s) {
			t.Error("matches 10001 bytes")
		}
	}
}

func TestE3Division(t *testing.T) {
	d := dice(521288629)
	yes := 0
	l := samples(1000, 5)
	for i, x := range l {
		x, y := x, l[(i*7+3)%len(l)]
		whole := cat(x, y)
		if x.Kind == api.Cat || y.Kind == api.Cat || !rx.Right(whole) {
			continue
		}
		s := d.text(d.roll(8))
		if i%2 == 0 {
			s = d.word(x) + d.word(y)
		}
		want := false
		for at := range len(s) + 1 {
			want = want || match.Match(x, s[:at]) && match.Match(y, s[at:])
		}
		if got := match.Match(whole, s); got != want {
			t.Fatalf("Match of %v, %q: %t", whole, s, got)
		}
		if want {
			yes++
		}
	}
	if yes < 200 {
		t.Errorf("only %d texts were divided", yes)
	}
}

func TestE3EmptyText(t *testing.T) {
	for i, x := range samples(3000, 8) {
		if got := match.Match(x, ""); got != rx.Null(x) {
			t.Fatalf("sample %d: matches the empty text: %t, Null: %t", i, got, rx.Null(x))
		}
		s := "abcabc"
		for at := range len(s) + 1 {
			ends := match.Ends(x, s, at)
			if got := len(ends) > 0 && ends[0] == at; got != rx.Null(x) {
				t.Fatalf("sample %d: ends where it begins, at %d: %t, Null: %t", i, at, got, rx.Null(x))
			}
		}
	}
}

func TestE3TextBefore(t *testing.T) {
	d := dice(88675123)
	for _, x := range samples(1000, 6) {
		s := d.text(d.roll(20))
		want := match.Ends(x, s, 0)
		for _, before := range []string{"a", "\n", "\x00\xff", s, d.text(20)} {
			var moved []int
			for _, e := range want {
				moved = append(moved, e+len(before))
			}
			holds(t, "a text before", x, before+s, len(before), moved)
		}
	}
}

// clone copies a pattern with all memory that it has.
func clone(x api.Rx) api.Rx {
	kids := x.Kids[:cap(x.Kids)]
	x.Kids = nil
	for _, kid := range kids {
		x.Kids = append(x.Kids, clone(kid))
	}
	return x
}

func TestR3Memory(t *testing.T) {
	for i, x := range samples(300, 6) {
		spare := append(slices.Clone(x.Kids), in('z'), empty())
		x.Kids = spare[:len(x.Kids)]
		before := clone(x)
		first := match.Ends(x, "abcabcaab", 0)
		kept := slices.Clone(first)
		match.Match(x, "abc")
		if !reflect.DeepEqual(before, clone(x)) {
			t.Fatalf("sample %d: the pattern was modified", i)
		}
		for j := range first {
			first[j] = -1
		}
		if again := match.Ends(x, "abcabcaab", 0); !slices.Equal(again, kept) {
			t.Fatalf("sample %d: %v, then %v", i, kept, again)
		}
	}
}

func TestR4Repeats(t *testing.T) {
	x := rep(alt(in('a'), cat(in('a'), in('b')), empty()), 2, 7)
	want := fmt.Sprint(match.Ends(x, "aabaabb", 0))
	for range 50 {
		match.Ends(in('b'), "bbb", 1)
		if got := fmt.Sprint(match.Ends(x, "aabaabb", 0)); got != want {
			t.Fatalf("%s, then %s", want, got)
		}
	}
}
