package set_test

import (
	"math"
	"slices"
	"testing"

	"heckle/api"
	"heckle/set"
)

// outside are numbers that are no bytes; the ones beside multiples of 256 would be bytes if cut to 8 bits.
var outside = []int{math.MinInt, math.MinInt + 1, -512, -257, -256, -255, -65, -64, -63, -1, 256, 257, 319, 320, 353, 511, 512, math.MaxInt - 1, math.MaxInt}

func isLetter(b int) bool {
	return b >= 'a' && b <= 'z' || b >= 'A' && b <= 'Z'
}

// make1 builds a set bit by bit, without the package under test.
func make1(list ...int) api.Set {
	var s api.Set
	for _, b := range list {
		s[b/64] |= 1 << (b % 64)
	}
	return s
}

// bytesOf reads a set bit by bit, without the package under test.
func bytesOf(s api.Set) [256]bool {
	var in [256]bool
	for b := range in {
		in[b] = s[b/64]&(1<<(b%64)) != 0
	}
	return in
}

// samples are sets of all shapes: the edges, single bytes, ranges, sparse and dense ones.
func samples() []api.Set {
	all := api.Set{math.MaxUint64, math.MaxUint64, math.MaxUint64, math.MaxUint64}
	l := []api.Set{
		{},
		all,
		make1(0),
		make1(255),
		make1(0, 255),
		make1(63, 64, 127, 128, 191, 192),
		make1('@', 'A', 'Z', '[', '`', 'a', 'z', '{'),
		{math.MaxUint64, 0, math.MaxUint64, 0},
		{0, math.MaxUint64, 0, math.MaxUint64},
		{0x5555555555555555, 0x5555555555555555, 0x5555555555555555, 0x5555555555555555},
		{0xaaaaaaaaaaaaaaaa, 0xaaaaaaaaaaaaaaaa, 0xaaaaaaaaaaaaaaaa, 0xaaaaaaaaaaaaaaaa},
	}
	for b := range 256 {
		one := make1(b)
		rest := all
		rest[b/64] &^= 1 << (b % 64)
		l = append(l, one, rest)
	}
	x := uint64(1)
	next := func() uint64 {
		x ^= x << 13
		x ^= x >> 7
		x ^= x << 17
		return x
	}
	for i := range 60 {
		s := api.Set{next(), next(), next(), next()}
		for j := range s {
			switch i % 3 {
			case 1:
				s[j] &= next() & next()
			case 2:
				s[j] |= next() | next()
			}
		}
		l = append(l, s)
	}
	return l
}

func TestA1Has(t *testing.T) {
	for _, s := range samples() {
		in := bytesOf(s)
		for b, want := range in {
			if got := set.Has(s, b); got != want {
				t.Fatalf("Has(%x, %d) = %v", s, b, got)
			}
		}
		for _, b := range outside {
			if set.Has(s, b) {
				t.Fatalf("Has(%x, %d) = true for a number that is no byte", s, b)
			}
		}
	}
}

func TestA1HasOfAllAndOfNone(t *testing.T) {
	all := set.Not(api.Set{})
	for b := -600; b <= 600; b++ {
		if got, want := set.Has(all, b), b >= 0 && b <= 255; got != want {
			t.Errorf("Has(all, %d) = %v", b, got)
		}
		if set.Has(api.Set{}, b) {
			t.Errorf("Has(none, %d) = true", b)
		}
	}
}

func TestA2Of(t *testing.T) {
	ends := append([]int{0, 1, 2, 62, 63, 64, 65, 96, 97, 122, 126, 127, 128, 129, 190, 191, 192, 193, 253, 254, 255}, outside...)
	for _, from := range ends {
		for _, to := range ends {
			in := bytesOf(set.Of(from, to))
			for b, got := range in {
				if got != (b >= from && b <= to) {
					t.Fatalf("Of(%d, %d): byte %d: %v", from, to, b, got)
				}
			}
		}
	}
}

func TestA2OfEdges(t *testing.T) {
	all := api.Set{math.MaxUint64, math.MaxUint64, math.MaxUint64, math.MaxUint64}
	for _, x := range []struct {
		from, to int
		want     api.Set
	}{
		{0, 0, api.Set{1, 0, 0, 0}},
		{255, 255, api.Set{0, 0, 0, 1 << 63}},
		{0, 255, all},
		{-1, 256, all},
		{math.MinInt, math.MaxInt, all},
		{math.MaxInt, math.MinInt, api.Set{}},
		{5, 4, api.Set{}},
		{255, 0, api.Set{}},
		{-10, -1, api.Set{}},
		{256, 300, api.Set{}},
		{-5, 0, api.Set{1, 0, 0, 0}},
		{255, 1000, api.Set{0, 0, 0, 1 << 63}},
		{63, 64, api.Set{1 << 63, 1, 0, 0}},
		{64, 127, api.Set{0, math.MaxUint64, 0, 0}},
	} {
		if got := set.Of(x.from, x.to); got != x.want {
			t.Errorf("Of(%d, %d) = %x, want %x", x.from, x.to, got, x.want)
		}
	}
}

func TestA2OrAndNot(t *testing.T) {
	l := samples()
	for i, a := range l {
		inA, inNot := bytesOf(a), bytesOf(set.Not(a))
		for b := range inA {
			if inNot[b] == inA[b] {
				t.Fatalf("Not(%x): byte %d", a, b)
			}
		}
		for _, c := range []api.Set{l[(i*7+3)%len(l)], l[len(l)-1-i], {}, l[1], a} {
			inC, inOr, inAnd := bytesOf(c), bytesOf(set.Or(a, c)), bytesOf(set.And(a, c))
			for b := range inA {
				if inOr[b] != (inA[b] || inC[b]) {
					t.Fatalf("Or(%x, %x): byte %d", a, c, b)
				}
				if inAnd[b] != (inA[b] && inC[b]) {
					t.Fatalf("And(%x, %x): byte %d", a, c, b)
				}
			}
		}
	}
}

func TestA2FoldOfOneByte(t *testing.T) {
	for b := range 256 {
		want := make1(b)
		if isLetter(b) {
			want = make1(b, b^32)
		}
		if got := set.Fold(make1(b)); got != want {
			t.Errorf("Fold of byte %d = %v", b, set.List(got))
		}
	}
}

func TestA2FoldOfLettersAndNeighbours(t *testing.T) {
	for _, x := range []struct{ give, want []int }{
		{[]int{'a'}, []int{'A', 'a'}},
		{[]int{'Z'}, []int{'Z', 'z'}},
		{[]int{'M', 'm'}, []int{'M', 'm'}},
		{[]int{'@', '[', '`', '{'}, []int{'@', '[', '`', '{'}},
		{[]int{'@', 'A', 'Z', '['}, []int{'@', 'A', 'Z', '[', 'a', 'z'}},
		{[]int{'`', 'a', 'z', '{'}, []int{'A', 'Z', '`', 'a', 'z', '{'}},
		// 0xe9 and 0xc9 are one letter in Latin 1, but none of a to z.
		{[]int{0, '0', 0xc1, 0xe1, 0xe9, 255}, []int{0, '0', 0xc1, 0xe1, 0xe9, 255}},
		{nil, nil},
	} {
		if got := set.Fold(make1(x.give...)); got != make1(x.want...) {
			t.Errorf("Fold(%v) = %v, want %v", x.give, set.List(got), x.want)
		}
	}
	if all := set.Of(0, 255); set.Fold(all) != all {
		t.Error("Fold of all bytes is not all bytes")
	}
}

func TestA2FoldOfAnySet(t *testing.T) {
	for _, s := range samples() {
		in, got := bytesOf(s), bytesOf(set.Fold(s))
		for b := range in {
			want := in[b] || isLetter(b) && in[b^32]
			if got[b] != want {
				t.Fatalf("Fold(%x): byte %d: %v", s, b, got[b])
			}
		}
	}
}

func TestA3List(t *testing.T) {
	for _, s := range samples() {
		var want []int
		for b, in := range bytesOf(s) {
			if in {
				want = append(want, b)
			}
		}
		if got := set.List(s); !slices.Equal(got, want) {
			t.Fatalf("List(%x) = %v, want %v", s, got, want)
		}
	}
}

func TestA3Runs(t *testing.T) {
	for _, x := range []struct {
		give api.Set
		want [][2]int
	}{
		{api.Set{}, nil},
		{set.Of(0, 255), [][2]int{{0, 255}}},
		{make1(0), [][2]int{{0, 0}}},
		{make1(255), [][2]int{{255, 255}}},
		{make1(0, 255), [][2]int{{0, 0}, {255, 255}}},
		{make1(0, 1, 254, 255), [][2]int{{0, 1}, {254, 255}}},
		{set.Not(make1(0)), [][2]int{{1, 255}}},
		{set.Not(make1(255)), [][2]int{{0, 254}}},
		{set.Not(make1(100)), [][2]int{{0, 99}, {101, 255}}},
		{make1(63, 64, 127, 128, 191, 192), [][2]int{{63, 64}, {127, 128}, {191, 192}}},
		{make1(5, 7, 9, 10, 12), [][2]int{{5, 5}, {7, 7}, {9, 10}, {12, 12}}},
		{set.Or(set.Of(10, 20), set.Of(21, 30)), [][2]int{{10, 30}}},
		{set.Or(set.Of(97, 99), set.Of(120, 120)), [][2]int{{97, 99}, {120, 120}}},
	} {
		if got := set.Runs(x.give); !slices.Equal(got, x.want) {
			t.Errorf("Runs(%x) = %v, want %v", x.give, got, x.want)
		}
	}
}

func TestA3RunsOfAnySet(t *testing.T) {
	for _, s := range samples() {
		var back []int
		end := -2
		for _, r := range set.Runs(s) {
			if r[0] > r[1] || r[0] <= end+1 {
				t.Fatalf("Runs(%x): run %v behind %d", s, r, end)
			}
			for b := r[0]; b <= r[1]; b++ {
				back = append(back, b)
			}
			end = r[1]
		}
		if make1(back...) != s {
			t.Fatalf("Runs(%x) = %v", s, set.Runs(s))
		}
	}
}

func TestA4Laws(t *testing.T) {
	l := samples()
	for i, a := range l {
		if set.Not(set.Not(a)) != a {
			t.Fatalf("Not twice: %x", a)
		}
		if once := set.Fold(a); set.Fold(once) != once {
			t.Fatalf("Fold twice: %x", a)
		}
		for _, b := range []api.Set{l[(i*5+1)%len(l)], l[len(l)-1-i], {}, l[1], a, set.Not(a)} {
			if set.Not(set.Or(a, b)) != set.And(set.Not(a), set.Not(b)) {
				t.Fatalf("De Morgan, union: %x %x", a, b)
			}
			if set.Not(set.And(a, b)) != set.Or(set.Not(a), set.Not(b)) {
				t.Fatalf("De Morgan, intersection: %x %x", a, b)
			}
		}
	}
}

// R3 and R4: whoever writes into a result changes neither an argument nor what a later call returns.
func TestResultsAreNotKept(t *testing.T) {
	for _, a := range []api.Set{make1(0, 1, 'q', 255), set.Of(0, 255)} {
		before := a
		list, runs := set.List(a), set.Runs(a)
		wantList, wantRuns := slices.Clone(list), slices.Clone(runs)
		for i := range list {
			list[i] = -7
		}
		for i := range runs {
			runs[i] = [2]int{-7, -7}
		}
		if a != before || !slices.Equal(set.List(a), wantList) || !slices.Equal(set.Runs(a), wantRuns) {
			t.Errorf("a result that is written into changes %x", before)
		}
	}
}
