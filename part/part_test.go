package part_test

import (
	"math"
	"slices"
	"testing"

	"heckle/api"
	"heckle/part"
	"heckle/set"
)

// has reads a bit without the packages under test.
func has(s api.Set, b int) bool {
	return s[b/64]&(1<<(b%64)) != 0
}

// one builds a set of single bytes, without the packages under test.
func one(list ...int) api.Set {
	var s api.Set
	for _, b := range list {
		s[b/64] |= 1 << (b % 64)
	}
	return s
}

// bitSet is the set of all bytes with that bit.
func bitSet(bit int) api.Set {
	var s api.Set
	for b := range 256 {
		if b>>bit&1 == 1 {
			s[b/64] |= 1 << (b % 64)
		}
	}
	return s
}

func bits() []api.Set {
	var l []api.Set
	for bit := range 8 {
		l = append(l, bitSet(bit))
	}
	return l
}

func singles() []api.Set {
	var l []api.Set
	for b := range 256 {
		l = append(l, one(b))
	}
	return l
}

// samples are lists of sets of all shapes: none, the edges, nested, overlapping and apart, sparse and dense.
func samples() [][]api.Set {
	all := api.Set{math.MaxUint64, math.MaxUint64, math.MaxUint64, math.MaxUint64}
	l := [][]api.Set{
		nil,
		{},
		{{}},
		{all},
		{{}, all, {}, all},
		{one(0)},
		{one(255)},
		{one(0), one(255)},
		{one(0, 255), one(0)},
		{one(63, 64, 127, 128, 191, 192)},
		{set.Of('a', 'c')},
		{set.Of('a', 'z'), set.Of('m', 'm'), set.Of('0', 'a')},
		{set.Of(0, 127), set.Of(64, 191), set.Of(128, 255)},
		{set.Of(0, 254)},
		{set.Of(1, 255)},
		bits(),
		bits()[1:],
		bits()[:7],
		singles(),
		singles()[:255],
		singles()[:254],
	}
	x := uint64(1)
	next := func() uint64 {
		x ^= x << 13
		x ^= x >> 7
		x ^= x << 17
		return x
	}
	for i := range 60 {
		var sets []api.Set
		for range i % 12 {
			s := api.Set{next(), next(), next(), next()}
			for j := range s {
				switch i % 3 {
				case 1:
					s[j] &= next() & next() & next()
				case 2:
					s[j] |= next() | next() | next()
				}
			}
			sets = append(sets, s)
		}
		l = append(l, sets)
	}
	return l
}

// alike is the promise's own condition: each set holds both or neither.
func alike(l []api.Set, a, b int) bool {
	for _, s := range l {
		if has(s, a) != has(s, b) {
			return false
		}
	}
	return true
}

// splitSlowly numbers the classes by comparing each byte with all that are smaller.
func splitSlowly(l []api.Set) ([]int, int) {
	m, n := make([]int, 256), 0
	for b := range m {
		m[b] = n
		for a := range b {
			if alike(l, a, b) {
				m[b] = m[a]
				break
			}
		}
		if m[b] == n {
			n++
		}
	}
	return m, n
}

func same(t *testing.T, what string, a, b []api.Set) {
	t.Helper()
	m1, n1 := part.Split(a)
	m2, n2 := part.Split(b)
	if n1 != n2 || !slices.Equal(m1, m2) {
		t.Fatalf("%s: %d classes of %x, %d of %x", what, n1, a, n2, b)
	}
}

func TestB1SplitOfAnySets(t *testing.T) {
	for _, l := range samples() {
		m, n := part.Split(l)
		want, count := splitSlowly(l)
		if n != count || !slices.Equal(m, want) {
			t.Fatalf("Split(%x) = %v, %d, want %v, %d", l, m, n, want, count)
		}
	}
}

func TestB1SplitEdges(t *testing.T) {
	zeros := make([]int, 256)
	lastAlone := slices.Clone(zeros)
	lastAlone[255] = 1
	firstAlone := slices.Repeat([]int{1}, 256)
	firstAlone[0] = 0
	each := make([]int, 256)
	for b := range each {
		each[b] = b
	}
	letters := slices.Clone(zeros)
	letters['a'], letters['b'], letters['c'] = 1, 1, 1
	for _, x := range []struct {
		name string
		give []api.Set
		want []int
		n    int
	}{
		{"nil", nil, zeros, 1},
		{"no sets", []api.Set{}, zeros, 1},
		{"the empty set", []api.Set{{}}, zeros, 1},
		{"all bytes", []api.Set{set.Of(0, 255)}, zeros, 1},
		{"a to c", []api.Set{set.Of('a', 'c')}, letters, 2},
		{"the last byte", []api.Set{one(255)}, lastAlone, 2},
		// A class's number hangs on its smallest byte, not on which side of the set it is.
		{"the first byte", []api.Set{one(0)}, firstAlone, 2},
		{"all but the first byte", []api.Set{set.Of(1, 255)}, firstAlone, 2},
		{"all bits", bits(), each, 256},
		{"all single bytes", singles(), each, 256},
		{"all single bytes but the last", singles()[:255], each, 256},
		{"all bits, and more sets", append(bits(), singles()...), each, 256},
	} {
		m, n := part.Split(x.give)
		if n != x.n || !slices.Equal(m, x.want) {
			t.Errorf("%s: %v, %d", x.name, m, n)
		}
	}
}

// A later set may part a class below others, which moves the numbers of all behind it.
func TestB1NumbersMoveWithLaterSets(t *testing.T) {
	first := []api.Set{one(100)}
	m, n := part.Split(first)
	if n != 2 || m[0] != 0 || m[50] != 0 || m[100] != 1 || m[255] != 0 {
		t.Fatalf("%v, %d", m, n)
	}
	m, n = part.Split(append(first, one(50)))
	if n != 3 || m[0] != 0 || m[50] != 1 || m[100] != 2 || m[255] != 0 {
		t.Fatalf("%v, %d", m, n)
	}
}

func TestB2Least(t *testing.T) {
	for _, x := range []struct {
		m    []int
		n    int
		want []int
	}{
		{nil, 0, nil},
		{nil, 3, []int{-1, -1, -1}},
		{[]int{}, 1, []int{-1}},
		{[]int{0}, 0, nil},
		{[]int{0}, 1, []int{0}},
		{[]int{2, 1, 0}, 3, []int{2, 1, 0}},
		{[]int{3, 0, 3}, 4, []int{1, -1, -1, 0}},
		{[]int{0, 0, 0, 1, 1}, 2, []int{0, 3}},
		{[]int{0, 1, 2, 3}, 2, []int{0, 1}},
		{[]int{0, 1}, -1, nil},
		{[]int{0, 1}, math.MinInt, nil},
		{[]int{-1, 5, math.MinInt, math.MaxInt, 256, -256, 2, 1}, 3, []int{-1, 7, 6}},
	} {
		if got := part.Least(x.m, x.n); !slices.Equal(got, x.want) {
			t.Errorf("Least(%v, %d) = %v, want %v", x.m, x.n, got, x.want)
		}
	}
}

func TestB2LeastOfAtMost256Classes(t *testing.T) {
	m := []int{256, 257, 255, 300, 254, 255, math.MaxInt, 0}
	for _, n := range []int{254, 255, 256, 257, 1000, 1 << 32, 1<<32 + 1, math.MaxInt - 1, math.MaxInt} {
		want := slices.Repeat([]int{-1}, min(n, 256))
		want[0] = 7
		if n > 254 {
			want[254] = 4
		}
		if n > 255 {
			want[255] = 2
		}
		if got := part.Least(m, n); !slices.Equal(got, want) {
			t.Errorf("Least(m, %d) = %v", n, got)
		}
	}
}

// m need not be a map of bytes: it may be longer.
func TestB2LeastBeyond256Indices(t *testing.T) {
	m := slices.Repeat([]int{-3}, 1000)
	m[300], m[400], m[999] = 1, 1, 0
	if got := part.Least(m, 3); !slices.Equal(got, []int{999, 300, -1}) {
		t.Errorf("%v", got)
	}
}

// Least of what Split returns: ascending, and each class's first byte.
func TestB2LeastOfSplit(t *testing.T) {
	for _, l := range samples() {
		m, n := part.Split(l)
		least := part.Least(m, n)
		if len(least) != n || !slices.IsSorted(least) {
			t.Fatalf("Split(%x): least bytes %v of %d classes", l, least, n)
		}
		for c, b := range least {
			if b != slices.Index(m, c) || b < 0 {
				t.Fatalf("Split(%x): class %d: least byte %d", l, c, b)
			}
		}
	}
}

func TestB3FurtherSetsDoNotMerge(t *testing.T) {
	for _, l := range samples() {
		before := 1
		for i := range len(l) + 1 {
			if i%32 > 12 && i < 254 { // of long lists a part is enough
				continue
			}
			m, n := part.Split(l[:i])
			if n < before || n > 256 || slices.Max(m) != n-1 {
				t.Fatalf("%x: %d classes of %d sets, %d before", l, n, i, before)
			}
			before = n
		}
	}
}

func TestB3OrderRepeatsAndComplements(t *testing.T) {
	for _, l := range samples() {
		back := slices.Clone(l)
		slices.Reverse(back)
		same(t, "reversed", l, back)
		same(t, "repeated", l, slices.Concat(l, l))
		same(t, "repeated and reversed", l, slices.Concat(l, back, l))
		negated := slices.Clone(l)
		for i, s := range l {
			negated[i] = set.Not(s)
			if i > 12 && i%64 > 0 { // of long lists a part is enough
				continue
			}
			single := slices.Clone(l)
			single[i] = negated[i]
			same(t, "one complement", l, single)
		}
		same(t, "complements", l, negated)
		same(t, "with complements", l, slices.Concat(negated, l))
		if len(l) > 0 {
			same(t, "turned", l, slices.Concat(l[1:], l[:1]))
		}
	}
}

// R3: neither the arguments nor the memory behind them is written into.
func TestArgumentsAreNotModified(t *testing.T) {
	sets := []api.Set{set.Of(3, 9), one(5), bitSet(2), bitSet(6)}
	wantSets := slices.Clone(sets)
	part.Split(sets[:2])
	if !slices.Equal(sets, wantSets) {
		t.Errorf("Split changes its sets: %x", sets)
	}
	m := []int{4, 1, 1, 7, 0, 2}
	wantM := slices.Clone(m)
	part.Least(m[:3], 5)
	if !slices.Equal(m, wantM) {
		t.Errorf("Least changes its classes: %v", m)
	}
}

// R3 and R4: whoever writes into a result changes neither an argument nor what a later call returns.
func TestResultsAreNotKept(t *testing.T) {
	for _, l := range [][]api.Set{nil, bits(), {set.Of('a', 'c')}} {
		m, n := part.Split(l)
		wantM := slices.Clone(m)
		least := part.Least(m, n)
		wantLeast := slices.Clone(least)
		for i := range least {
			least[i] = -7
		}
		if !slices.Equal(m, wantM) {
			t.Errorf("a result of Least shares memory with its argument: %v", m)
		}
		for i := range m {
			m[i] = -7
		}
		again, count := part.Split(l)
		if count != n || !slices.Equal(again, wantM) || !slices.Equal(part.Least(again, n), wantLeast) {
			t.Errorf("a result that is written into changes later ones: %v, %d", again, count)
		}
	}
}
