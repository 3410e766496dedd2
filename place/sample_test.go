package place_test

import (
	"slices"
	"testing"

	"heckle/api"
	"heckle/read"
	"heckle/rx"
)

// in builds Bytes of single bytes.
func in(list ...int) api.Rx {
	var s api.Set
	for _, b := range list {
		s[b/64] |= 1 << (b % 64)
	}
	return api.Rx{Kind: api.Bytes, Set: s}
}

func empty() api.Rx { return api.Rx{Kind: api.Empty} }

func cat(kids ...api.Rx) api.Rx { return api.Rx{Kind: api.Cat, Kids: kids} }

func alt(kids ...api.Rx) api.Rx { return api.Rx{Kind: api.Alt, Kids: kids} }

func rep(x api.Rx, lo, hi int) api.Rx {
	return api.Rx{Kind: api.Rep, Lo: lo, Hi: hi, Kids: []api.Rx{x}}
}

// reps encloses x in n Reps.
func reps(x api.Rx, n, lo, hi int) api.Rx {
	for range n {
		x = rep(x, lo, hi)
	}
	return x
}

// empties are n patterns, the last of which is x, while all others match the empty text alone.
func empties(x api.Rx, n int) []api.Rx {
	return append(slices.Repeat([]api.Rx{empty()}, n-1), x)
}

// parsed is the pattern of that text.
func parsed(t *testing.T, text string) api.Rx {
	t.Helper()
	x, e, at := read.Read(text, nil, false)
	if e != api.OK {
		t.Fatalf("the pattern %q has the error %d at %d", text, e, at)
	}
	return x
}

// counts are all that a Rep may have.
func counts() [][2]int {
	var l [][2]int
	for lo := range 21 {
		l = append(l, [2]int{lo, -1})
		for hi := max(lo, 1); hi <= 20; hi++ {
			l = append(l, [2]int{lo, hi})
		}
	}
	return l
}

// small are all patterns of up to three levels, of at most two kids, whose Reps have the counts of larger.
func small() []api.Rx {
	return larger(larger([]api.Rx{empty(), in('a')}))
}

// larger adds to patterns those that consist of one or two of them.
func larger(l []api.Rx) []api.Rx {
	all := slices.Clone(l)
	for _, x := range l {
		for _, c := range [][2]int{{0, 1}, {0, -1}, {1, -1}, {1, 1}, {0, 2}, {2, -1}, {1, 3}} {
			all = append(all, rep(x, c[0], c[1]))
		}
		for _, y := range l {
			all = append(all, cat(x, y), alt(x, y))
		}
	}
	return slices.DeleteFunc(all, func(x api.Rx) bool { return !rx.Right(x) })
}

// lettered gives the Bytes of x, from left to right, the sets of the letters in turn.
func lettered(x api.Rx, letters string) api.Rx {
	n := 0
	var change func(x api.Rx) api.Rx
	change = func(x api.Rx) api.Rx {
		if x.Kind == api.Bytes {
			n++
			return in(int(letters[(n-1)%len(letters)]))
		}
		kids := x.Kids
		x.Kids = nil
		for _, kid := range kids {
			x.Kids = append(x.Kids, change(kid))
		}
		return x
	}
	return change(x)
}

// dice are numbers that are the same in each run.
type dice uint64

func (d *dice) roll(n int) int {
	*d ^= *d << 13
	*d ^= *d >> 7
	*d ^= *d << 17
	return int(uint64(*d) >> 11 % uint64(n))
}

// pattern makes the text of a pattern of a and b.
func (d *dice) pattern(levels int) string {
	if levels == 0 {
		return []string{"a", "b", "a", "b", "[ab]", "()"}[d.roll(6)]
	}
	one := d.pattern(levels - 1)
	switch d.roll(4) {
	case 0:
		return one + d.pattern(d.roll(levels))
	case 1:
		return "(" + one + "|" + d.pattern(d.roll(levels)) + ")"
	case 2:
		return d.pattern(d.roll(levels)) + one
	}
	quantifiers := []string{"*", "+", "?", "{1}", "{2}", "{2,}", "{3,}", "{0,2}", "{0,3}", "{1,2}", "{1,3}", "{2,4}"}
	return "(" + one + ")" + quantifiers[d.roll(len(quantifiers))]
}

// samples are n valid patterns, of many levels.
func samples(n int) []api.Rx {
	d := dice(88172645463325252)
	var l []api.Rx
	for len(l) < n {
		if x, e, _ := read.Read(d.pattern(len(l)%15), nil, false); e == api.OK {
			l = append(l, x)
		}
	}
	return l
}

// texts are all texts of the given bytes, up to the given length.
func texts(bytes string, most int) []string {
	l := []string{""}
	for i := 0; len(l[i]) < most; i++ {
		for _, b := range bytes {
			l = append(l, l[i]+string(b))
		}
	}
	return l
}

// wrong are patterns that are not valid.
func wrong() map[string]api.Rx {
	a := in('a')
	endless := make([]api.Rx, 1)
	endless[0] = api.Rx{Kind: api.Rep, Hi: 1, Kids: endless}
	return map[string]api.Rx{
		"zero":               {},
		"kind -1":            {Kind: -1},
		"kind 6":             {Kind: 6},
		"no bytes":           {Kind: api.Bytes},
		"empty with a set":   {Kind: api.Empty, Set: a.Set},
		"empty with a kid":   {Kind: api.Empty, Kids: []api.Rx{a}},
		"bytes with a kid":   {Kind: api.Bytes, Set: a.Set, Kids: []api.Rx{a}},
		"bytes with a count": {Kind: api.Bytes, Set: a.Set, Hi: 1},
		"cat of none":        cat(),
		"cat of one":         cat(a),
		"cat in cat":         cat(a, cat(a, a)),
		"cat with a set":     {Kind: api.Cat, Set: a.Set, Kids: []api.Rx{a, a}},
		"alt of none":        alt(),
		"alt of one":         alt(a),
		"alt in alt":         alt(alt(a, a), a),
		"rep of none":        {Kind: api.Rep, Hi: 1},
		"rep of two":         {Kind: api.Rep, Hi: 1, Kids: []api.Rx{a, a}},
		"rep of 0 to 0":      rep(a, 0, 0),
		"rep of 2 to 1":      rep(a, 2, 1),
		"rep of 0 to 21":     rep(a, 0, 21),
		"rep of 21 on":       rep(a, 21, -1),
		"rep of -1 on":       rep(a, -1, -1),
		"rep of 0 to -2":     rep(a, 0, -2),
		"empty, 0 to 0":      rep(empty(), 0, 0),
		"wrong within":       alt(a, empty(), rep(cat(a, api.Rx{}), 0, -1)),
		"wrong beside empty": rep(cat(empty(), rep(api.Rx{}, 0, 1)), 0, 1),
		"21 levels":          reps(a, 20, 0, 1),
		"21 levels of empty": reps(empty(), 20, 0, 1),
		"Size 201":           alt(rep(rep(a, 10, 10), 20, 20), a),
		"Size 201, of loops": cat(rep(rep(a, 20, -1), 10, -1), a),
		"1001 patterns":      alt(empties(a, 1000)...),
		"endless":            endless[0],
		"300001 levels":      reps(a, 300000, 0, 1),
	}
}

// clone copies a pattern with all memory that it has.
func clone(x api.Rx) api.Rx {
	kids := x.Kids[:cap(x.Kids)]
	x.Kids = nil
	for _, kid := range kids {
		x.Kids = append(x.Kids, clone(kid))
	}
	return x
}
