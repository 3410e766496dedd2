package rx_test

import (
	"fmt"
	"math"
	"reflect"
	"strings"
	"testing"

	"heckle/api"
	"heckle/rx"
)

// in builds Bytes of single bytes, without the packages under test.
func in(list ...int) api.Rx {
	var s api.Set
	for _, b := range list {
		s[b/64] |= 1 << (b % 64)
	}
	return api.Rx{Kind: api.Bytes, Set: s}
}

// span builds Bytes of all bytes from the first to the last.
func span(first, last int) api.Rx {
	var list []int
	for b := first; b <= last; b++ {
		list = append(list, b)
	}
	return in(list...)
}

func empty() api.Rx { return api.Rx{Kind: api.Empty} }

func cat(kids ...api.Rx) api.Rx { return api.Rx{Kind: api.Cat, Kids: kids} }

func alt(kids ...api.Rx) api.Rx { return api.Rx{Kind: api.Alt, Kids: kids} }

func rep(x api.Rx, lo, hi int) api.Rx {
	return api.Rx{Kind: api.Rep, Lo: lo, Hi: hi, Kids: []api.Rx{x}}
}

// many is n times the same pattern.
func many(x api.Rx, n int) []api.Rx {
	l := make([]api.Rx, n)
	for i := range l {
		l[i] = x
	}
	return l
}

// nest encloses x in n patterns.
func nest(x api.Rx, n int, enclose func(i int, x api.Rx) api.Rx) api.Rx {
	for i := range n {
		x = enclose(i, x)
	}
	return x
}

func inOption(_ int, x api.Rx) api.Rx { return rep(x, 0, 1) }

// inTwo encloses in a Cat and an Alt by turns, as neither may stand in its like.
func inTwo(i int, x api.Rx) api.Rx {
	if i%2 == 0 {
		return cat(x, empty())
	}
	return alt(empty(), x)
}

// inBoth doubles, by sharing, the number of patterns.
func inBoth(i int, x api.Rx) api.Rx {
	if i%2 == 0 {
		return cat(x, x)
	}
	return alt(x, x)
}

// loop is a pattern that is its own and only kid.
func loop(kind int) api.Rx {
	kids := make([]api.Rx, 1)
	kids[0] = api.Rx{Kind: kind, Kids: kids}
	return kids[0]
}

// dice are numbers that are the same in each run.
type dice uint64

func (d *dice) roll(n int) int {
	*d ^= *d << 13
	*d ^= *d >> 7
	*d ^= *d << 17
	return int(uint64(*d) >> 11 % uint64(n))
}

// any makes a pattern as in the table, of at most the given levels, whose kind isn't the one that is barred.
func (d *dice) any(levels, barred int) api.Rx {
	kind := api.Empty + d.roll(5)
	if levels == 1 {
		kind = api.Empty + d.roll(2)
	}
	switch {
	case kind == barred || kind == api.Bytes:
		first := d.roll(256)
		return span(first, min(255, first+d.roll(3)))
	case kind == api.Empty:
		return empty()
	case kind == api.Rep:
		lo := d.roll(4)
		hi := max(lo, 1) + d.roll(3)
		if d.roll(3) == 0 {
			hi = -1
		}
		return rep(d.any(levels-1, 0), lo, hi)
	}
	x := api.Rx{Kind: kind}
	for range 2 + d.roll(3) {
		x.Kids = append(x.Kids, d.any(levels-1, kind))
	}
	return x
}

// samples are patterns as in the table, most of them valid.
func samples() []api.Rx {
	d := dice(88172645463325252)
	var l []api.Rx
	for i := range 3000 {
		l = append(l, d.any(1+i%6, 0))
	}
	return l
}

// clone copies a pattern with all memory that it has.
func clone(x api.Rx) api.Rx {
	if x.Kids != nil {
		kids := make([]api.Rx, len(x.Kids))
		for i := range kids {
			kids[i] = clone(x.Kids[i])
		}
		x.Kids = kids
	}
	return x
}

// slowSize is Size in the words of the promise.
func slowSize(x api.Rx) int {
	if x.Kind == api.Bytes {
		return 1
	}
	n := 0
	for _, kid := range x.Kids {
		n += slowSize(kid)
	}
	if x.Kind == api.Rep {
		n *= max(x.Lo, x.Hi, 1)
	}
	return min(n, 1000000)
}

func patterns(x api.Rx) int {
	n := 1
	for _, kid := range x.Kids {
		n += patterns(kid)
	}
	return n
}

func TestC1SizeOfKinds(t *testing.T) {
	a := in('a')
	for i, c := range []struct {
		x    api.Rx
		want int
	}{
		{empty(), 0},
		{a, 1},
		{span(0, 255), 1},
		{cat(a, a), 2},
		{cat(a, empty(), a, rep(a, 2, 3)), 5},
		{alt(a, empty()), 1},
		{alt(a, a, cat(a, a, a)), 5},
		{rep(a, 0, 1), 1},
		{rep(a, 0, -1), 1},
		{rep(a, 1, -1), 1},
		{rep(a, 2, -1), 2},
		{rep(a, 20, -1), 20},
		{rep(a, 0, 20), 20},
		{rep(a, 7, 7), 7},
		{rep(empty(), 20, 20), 0},
		{rep(alt(a, cat(a, a)), 2, 4), 12},
		{rep(rep(a, 0, 3), 5, -1), 15},
		{cat(rep(cat(a, a), 3, 3), a, rep(a, 0, 4)), 11},
	} {
		if got := rx.Size(c.x); got != c.want {
			t.Errorf("%d: Size is %d, want %d", i, got, c.want)
		}
	}
	for i, x := range samples() {
		if got, want := rx.Size(x), slowSize(x); got != want {
			t.Fatalf("sample %d: Size is %d, want %d", i, got, want)
		}
	}
}

func TestC1SizeAtItsMost(t *testing.T) {
	a := in('a')
	tens := func(x api.Rx, n int) api.Rx {
		return nest(x, n, func(_ int, x api.Rx) api.Rx { return rep(x, 10, 10) })
	}
	for i, c := range []struct {
		x    api.Rx
		want int
	}{
		{tens(a, 5), 100000},
		{cat(many(tens(a, 5), 9)...), 900000},
		{cat(append(many(tens(a, 5), 9), rep(a, 20, 20))...), 900020},
		{rep(cat(append(many(tens(a, 4), 9), cat(many(a, 9999)...))...), 10, 10), 999990},
		{tens(a, 6), 1000000},
		{cat(tens(a, 6), a), 1000000},
		{cat(a, tens(a, 6)), 1000000},
		{tens(a, 7), 1000000},
		{tens(a, 100), 1000000},
		{tens(cat(a, a), 6), 1000000},
		{tens(empty(), 100), 0},
		{cat(tens(empty(), 100), a), 1},
		{alt(a, tens(rep(empty(), 0, 20), 100), a), 2},
		{cat(many(a, 999999)...), 999999},
		{cat(many(a, 1000000)...), 1000000},
		{cat(many(a, 1000001)...), 1000000},
		{alt(many(empty(), 1000001)...), 0},
	} {
		if got := rx.Size(c.x); got != c.want {
			t.Errorf("%d: Size is %d, want %d", i, got, c.want)
		}
	}
}

// What is as in the table has its Size even if it is nested too deep to be valid.
func TestC1SizeOfDeepPatterns(t *testing.T) {
	const levels = 300000
	for i, c := range []struct {
		x    api.Rx
		want int
	}{
		{nest(in('a'), levels, inOption), 1},
		{nest(in('a'), levels, inTwo), 1},
		{nest(empty(), levels, inTwo), 0},
		{nest(in('a'), 16, inBoth), 1 << 16},
		{nest(in('a'), 64, inBoth), 1000000},
		{nest(empty(), 16, inBoth), 0},
		{nest(in('a'), levels, func(i int, x api.Rx) api.Rx {
			if i%2 == 0 {
				return cat(in('b'), x)
			}
			return alt(x, in('c'))
		}), levels + 1},
	} {
		if got := rx.Size(c.x); got != c.want {
			t.Errorf("%d: Size is %d, want %d", i, got, c.want)
		}
	}
}

// odd are patterns that are not as in the table, each in one regard.
func odd() map[string]api.Rx {
	a, b := in('a'), in('b')
	with := func(x api.Rx, change func(x *api.Rx)) api.Rx {
		change(&x)
		return x
	}
	l := map[string]api.Rx{
		"zero":          {},
		"kind -1":       {Kind: -1},
		"kind 6":        {Kind: 6},
		"kind least":    {Kind: math.MinInt},
		"kind most":     {Kind: math.MaxInt},
		"kind 0, set":   {Set: a.Set},
		"kind 6, kids":  {Kind: 6, Kids: []api.Rx{a, b}},
		"bytes of none": {Kind: api.Bytes},
		"cat of 0":      cat(),
		"cat of 1":      cat(a),
		"alt of 0":      alt(),
		"alt of 1":      alt(a),
		"rep of 0":      {Kind: api.Rep, Lo: 0, Hi: 1},
		"rep of 2":      {Kind: api.Rep, Lo: 0, Hi: 1, Kids: []api.Rx{a, b}},
		"cat in cat":    cat(a, cat(a, b)),
		"cat first":     cat(cat(a, b), a),
		"alt in alt":    alt(a, alt(a, b)),
		"alt first":     alt(alt(a, b), b),
		"alt amid":      alt(a, alt(a, b), b),
	}
	for name, x := range map[string]api.Rx{"empty": empty(), "bytes": a} {
		l[name+" with a kid"] = with(x, func(x *api.Rx) { x.Kids = []api.Rx{a} })
	}
	for name, x := range map[string]api.Rx{"empty": empty(), "cat": cat(a, b), "alt": alt(a, b), "rep": rep(a, 1, 2)} {
		for b := range 256 {
			l[fmt.Sprint(name, " with byte ", b)] = with(x, func(x *api.Rx) { x.Set = in(b).Set })
		}
	}
	for name, x := range map[string]api.Rx{"empty": empty(), "bytes": a, "cat": cat(a, b), "alt": alt(a, b)} {
		for _, n := range []int{math.MinInt, -1, 1, 20, math.MaxInt} {
			l[fmt.Sprint(name, " with Lo ", n)] = with(x, func(x *api.Rx) { x.Lo = n })
			l[fmt.Sprint(name, " with Hi ", n)] = with(x, func(x *api.Rx) { x.Hi = n })
		}
	}
	for _, p := range [][2]int{{0, 0}, {-1, -1}, {-1, 1}, {21, -1}, {21, 21}, {20, 21}, {0, 21}, {1, 0}, {2, 1}, {20, 19}, {0, -2}, {3, -2}, {math.MinInt, 1}, {math.MaxInt, -1}, {math.MaxInt, math.MaxInt}, {0, math.MaxInt}, {0, math.MinInt}, {1 << 32, 1<<32 + 1}} {
		l[fmt.Sprint("rep ", p)] = rep(a, p[0], p[1])
	}
	return l
}

// within puts x somewhere inside valid patterns.
func within(x api.Rx) []api.Rx {
	a, b := in('a'), in('b')
	return []api.Rx{
		cat(a, rep(x, 1, 2)),
		alt(rep(x, 0, -1), b),
		rep(alt(cat(a, rep(x, 0, 1), b), empty()), 1, 1),
	}
}

func TestC1SizeOfOddPatternsEnds(t *testing.T) {
	for _, x := range odd() {
		rx.Size(x)
		rx.Size(rep(x, math.MaxInt, math.MaxInt))
		rx.Size(rep(rep(x, math.MaxInt, math.MinInt), math.MinInt, math.MaxInt))
		for _, y := range within(x) {
			rx.Size(y)
		}
	}
	for kind := -1; kind <= 6; kind++ {
		rx.Size(loop(kind))
	}
}

func TestC2RightOfKinds(t *testing.T) {
	a := in('a')
	right := []api.Rx{empty(), a, in(0), in(255), span(0, 255), cat(a, a), alt(a, a), alt(a, cat(a, a)), cat(a, alt(a, a)), cat(empty(), empty()), alt(empty(), empty()), cat(rep(cat(a, a), 0, 1), a), alt(rep(alt(a, a), 0, 1), a), rep(rep(rep(a, 0, 1), 0, 1), 0, 1), {Kind: api.Empty, Kids: []api.Rx{}}, {Kind: api.Bytes, Set: a.Set, Kids: []api.Rx{}}}
	for lo := 0; lo <= 20; lo++ {
		right = append(right, rep(a, lo, -1))
		for hi := max(lo, 1); hi <= 20; hi++ {
			right = append(right, rep(a, lo, hi))
		}
	}
	for i, x := range right {
		if !rx.Right(x) {
			t.Errorf("%d: not valid", i)
		}
		for j, y := range within(x) {
			if !rx.Right(y) {
				t.Errorf("%d within %d: not valid", i, j)
			}
		}
	}
	for name, x := range odd() {
		if rx.Right(x) {
			t.Errorf("%s: valid", name)
		}
		for j, y := range within(x) {
			if rx.Right(y) {
				t.Errorf("%s within %d: valid", name, j)
			}
		}
	}
}

func TestC2RightUpToItsLimits(t *testing.T) {
	a := in('a')
	hundred := func(x api.Rx) api.Rx { return rep(rep(x, 10, 10), 10, 10) }
	for name, c := range map[string]struct {
		x    api.Rx
		want bool
	}{
		"20 levels of rep":         {nest(a, 19, inOption), true},
		"21 levels of rep":         {nest(a, 20, inOption), false},
		"20 levels":                {nest(a, 19, inTwo), true},
		"21 levels":                {nest(a, 20, inTwo), false},
		"20 levels, the last":      {cat(a, a, nest(a, 18, inOption)), true},
		"21 levels, the last":      {cat(a, a, nest(a, 19, inOption)), false},
		"20 levels, the first":     {alt(nest(empty(), 18, inOption), a), true},
		"21 levels, the first":     {alt(nest(empty(), 19, inOption), a), false},
		"Size 200":                 {rep(rep(a, 10, 10), 20, 20), true},
		"Size 200 in a Cat":        {cat(many(a, 200)...), true},
		"Size 201 in a Cat":        {cat(many(a, 201)...), false},
		"Size 200 in an Alt":       {alt(many(a, 200)...), true},
		"Size 201 in an Alt":       {alt(many(a, 201)...), false},
		"Size 201":                 {alt(rep(rep(a, 10, 10), 20, 20), a), false},
		"Size 200 by Lo":           {rep(rep(a, 10, -1), 20, -1), true},
		"Size 200 by Hi":           {rep(rep(a, 10, -1), 0, 20), true},
		"Size 220":                 {rep(rep(a, 11, 11), 0, 20), false},
		"Size 200 of two":          {cat(hundred(a), empty(), hundred(a)), true},
		"Size 201 of three":        {cat(hundred(a), a, hundred(a)), false},
		"Size 0, over and over":    {hundred(hundred(hundred(empty()))), true},
		"1000 patterns":            {alt(many(empty(), 999)...), true},
		"1001 patterns":            {alt(many(empty(), 1000)...), false},
		"1000 patterns, nested":    {cat(append(many(rep(alt(empty(), empty()), 0, 1), 249), many(empty(), 3)...)...), true},
		"1001 patterns, nested":    {cat(append(many(rep(alt(empty(), empty()), 0, 1), 249), many(empty(), 4)...)...), false},
		"1000 patterns, the last":  {cat(append(many(empty(), 996), alt(empty(), empty()))...), true},
		"1001 patterns, the last":  {cat(append(many(empty(), 996), alt(empty(), empty(), empty()))...), false},
		"1001 patterns, the first": {cat(append([]api.Rx{alt(empty(), empty(), empty())}, many(empty(), 996)...)...), false},
	} {
		if got := rx.Right(c.x); got != c.want {
			t.Errorf("%s: %t, want %t (Size %d, %d patterns)", name, got, c.want, slowSize(c.x), patterns(c.x))
		}
	}
	for i, x := range samples() {
		if want := slowSize(x) <= 200 && patterns(x) <= 1000; rx.Right(x) != want {
			t.Fatalf("sample %d: want %t", i, want)
		}
	}
}

// endless are patterns that no visit of all that is in them would end with in time.
func endless() []api.Rx {
	l := []api.Rx{nest(empty(), 100, inBoth), nest(in('a'), 100, inBoth), nest(in('a'), 300000, inOption)}
	for kind := -1; kind <= 6; kind++ {
		l = append(l, loop(kind))
	}
	two := make([]api.Rx, 2)
	two[0], two[1] = cat(two...), in('a')
	long := make([]api.Rx, 100000)
	for i := range long {
		long[i] = alt(long...)
	}
	option := make([]api.Rx, 1)
	option[0] = api.Rx{Kind: api.Rep, Hi: 1, Kids: option}
	return append(l, two[0], long[0], option[0])
}

func TestC2RightOfEndlessPatternsEnds(t *testing.T) {
	for i, x := range endless() {
		if s, e := rx.Print(x); rx.Right(x) || s != "" || e != api.ErrArg {
			t.Errorf("%d: valid, %q %d", i, s, e)
		}
		rx.Null(x)
	}
}

// slowByte is the text of a byte in the words of the promise.
func slowByte(b int) string {
	if strings.Contains("0123456789abcdefghijklmnopqrstuvwxyzABCDEFGHIJKLMNOPQRSTUVWXYZ", string(rune(b))) && b < 128 {
		return string(rune(b))
	}
	return fmt.Sprintf("\\x%02x", b)
}

func TestC3PrintBytes(t *testing.T) {
	for b := range 256 {
		if s, e := rx.Print(in(b)); s != slowByte(b) || e != api.OK {
			t.Errorf("byte %d: %q %d", b, s, e)
		}
		if b < 2 {
			continue
		}
		for x, want := range map[int]string{
			b - 1: "[" + slowByte(b-1) + "-" + slowByte(b) + "]",
			b - 2: "[" + slowByte(b-2) + "-" + slowByte(b) + "]",
		} {
			if s, e := rx.Print(span(x, b)); s != want || e != api.OK {
				t.Errorf("bytes %d to %d: %q %d", x, b, s, e)
			}
		}
		if s, e := rx.Print(in(b-2, b)); s != "["+slowByte(b-2)+slowByte(b)+"]" || e != api.OK {
			t.Errorf("bytes %d and %d: %q %d", b-2, b, s, e)
		}
	}
	for want, x := range map[string]api.Rx{
		`[\x00-\xff]`:             span(0, 255),
		`[0-9A-Z\x5fa-z]`:         {Kind: api.Bytes, Set: api.Set{0x03ff000000000000, 0x07fffffe87fffffe}},
		`[\x00\xff]`:              in(0, 255),
		`[\x3f-AC-D\x7f-\x80]`:    in('?', '@', 'A', 'C', 'D', 127, 128),
		`[\x00-\x60b-\xff]`:       {Kind: api.Bytes, Set: api.Set{math.MaxUint64, ^uint64(1 << 33), math.MaxUint64, math.MaxUint64}},
		`[\x2d\x5b\x5d-\x5e\x7c]`: in('-', '[', ']', '^', '|'),
	} {
		if s, e := rx.Print(x); s != want || e != api.OK {
			t.Errorf("%q: %q %d", want, s, e)
		}
	}
	var list []int
	want := "["
	for b := 0; b < 256; b += 2 {
		list, want = append(list, b), want+slowByte(b)
	}
	if s, _ := rx.Print(in(list...)); s != want+"]" {
		t.Errorf("every second byte: %q", s)
	}
}

func TestC3PrintKinds(t *testing.T) {
	a, b, c := in('a'), in('b'), in('c')
	for want, x := range map[string]api.Rx{
		"()":                        empty(),
		"a[b-c]{0,}":                cat(a, rep(span('b', 'c'), 0, -1)),
		"abc":                       cat(a, b, c),
		"a()b":                      cat(a, empty(), b),
		"()()":                      cat(empty(), empty()),
		"a|b|c":                     alt(a, b, c),
		"()|()":                     alt(empty(), empty()),
		"()|ab|c":                   alt(empty(), cat(a, b), c),
		"(a|b)c":                    cat(alt(a, b), c),
		"(a|b)(b|c)":                cat(alt(a, b), alt(b, c)),
		"a(b|ac|(a|b)c)":            cat(a, alt(b, cat(a, c), cat(alt(a, b), c))),
		"a{0,}b{1,}c{0,1}":          cat(rep(a, 0, -1), rep(b, 1, -1), rep(c, 0, 1)),
		"a{0,1}|b{20,}":             alt(rep(a, 0, 1), rep(b, 20, -1)),
		"a{20,20}":                  rep(a, 20, 20),
		"a{9,10}":                   rep(a, 9, 10),
		"(){0,}":                    rep(empty(), 0, -1),
		"[a-b]{2,3}":                rep(span('a', 'b'), 2, 3),
		`\x2b{1,}`:                  rep(in('+'), 1, -1),
		"(ab){1,2}":                 rep(cat(a, b), 1, 2),
		"(a|b){1,2}":                rep(alt(a, b), 1, 2),
		"(a{0,1}){1,2}":             rep(rep(a, 0, 1), 1, 2),
		"((a{0,1}){1,2}){3,}":       rep(rep(rep(a, 0, 1), 1, 2), 3, -1),
		"((a|b)c){0,1}a|(b|()){1,}": alt(cat(rep(cat(alt(a, b), c), 0, 1), a), rep(alt(b, empty()), 1, -1)),
	} {
		if s, e := rx.Print(x); s != want || e != api.OK {
			t.Errorf("%q: %q %d", want, s, e)
		}
	}
}

func TestC3PrintOfPatternsThatAreNotValid(t *testing.T) {
	for name, x := range odd() {
		for i, y := range append(within(x), x) {
			if s, e := rx.Print(y); s != "" || e != api.ErrArg {
				t.Errorf("%s within %d: %q %d", name, i, s, e)
			}
		}
	}
	for i, x := range []api.Rx{nest(in('a'), 20, inTwo), cat(many(in('a'), 201)...), alt(many(empty(), 1000)...), nest(empty(), 1000, inOption)} {
		if s, e := rx.Print(x); s != "" || e != api.ErrArg {
			t.Errorf("over limit %d: %q %d", i, s, e)
		}
	}
	for i, x := range []api.Rx{nest(in('a'), 19, inTwo), cat(many(in('a'), 200)...), alt(many(empty(), 999)...)} {
		if s, e := rx.Print(x); s == "" || e != api.OK {
			t.Errorf("at limit %d: %q %d", i, s, e)
		}
	}
}

// changed are patterns that differ from x in one field of one of the patterns in it.
func changed(x api.Rx) []api.Rx {
	kind, lo, hi, bit, more := x, x, x, x, x
	kind.Kind++
	lo.Lo++
	hi.Hi--
	bit.Set[3] ^= 1 << 63
	more.Kids = append(append([]api.Rx{}, x.Kids...), empty())
	l := []api.Rx{kind, lo, hi, bit, more}
	if len(x.Kids) > 0 {
		fewer := x
		fewer.Kids = x.Kids[1:]
		l = append(l, fewer)
	}
	for i := range x.Kids {
		for _, kid := range changed(x.Kids[i]) {
			y := clone(x)
			y.Kids[i] = kid
			l = append(l, y)
		}
	}
	return l
}

func TestC4Same(t *testing.T) {
	a, b, c := in('a'), in('b'), in('c')
	checked := 0
	for i, x := range samples() {
		if !rx.Same(x, x) || !rx.Same(x, clone(x)) {
			t.Fatalf("sample %d: not the same as itself", i)
		}
		if patterns(x) > 30 || checked > 20000 {
			continue
		}
		for j, y := range changed(x) {
			checked++
			if rx.Same(x, y) || rx.Same(y, x) || !rx.Same(y, clone(y)) {
				t.Fatalf("sample %d, changed by %d", i, j)
			}
		}
	}
	for i, p := range [][2]api.Rx{
		{cat(a, b, c), cat(a, c, b)},
		{alt(a, b), alt(b, a)},
		{cat(a, b), alt(a, b)},
		{cat(a, cat(b, c)), cat(cat(a, b), c)},
		{cat(a, b, c), cat(a, b)},
		{cat(a, alt(b, c), b), cat(a, alt(b, c, b))},
		{rep(a, 0, 1), rep(a, 0, -1)},
		{{}, empty()},
		{{Kind: math.MaxInt}, {Kind: math.MinInt}},
		{{Lo: math.MaxInt}, {Lo: -1}},
		{{Hi: 1 << 32}, {}},
		{{Kids: []api.Rx{{}}}, {}},
	} {
		if rx.Same(p[0], p[1]) || rx.Same(p[1], p[0]) {
			t.Errorf("%d: the same", i)
		}
	}
	if !rx.Same(api.Rx{Kind: api.Empty, Kids: []api.Rx{}}, empty()) || !rx.Same(api.Rx{}, api.Rx{Kids: make([]api.Rx, 0, 3)}) {
		t.Error("no kids and none differ")
	}
}

// Same asks for no valid patterns.
func TestC4SameOfOtherPatterns(t *testing.T) {
	l := odd()
	for name, x := range l {
		if !rx.Same(x, clone(x)) || rx.Same(x, in('q')) {
			t.Errorf("%s", name)
		}
		for i, y := range within(x) {
			if !rx.Same(y, within(clone(x))[i]) {
				t.Errorf("%s within %d", name, i)
			}
		}
	}
	const levels = 300000
	for i, enclose := range []func(int, api.Rx) api.Rx{inOption, inTwo} {
		x, y, z := nest(in('a'), levels, enclose), nest(in('a'), levels, enclose), nest(in('b'), levels, enclose)
		if !rx.Same(x, y) || rx.Same(x, z) || rx.Same(x, x.Kids[0]) {
			t.Errorf("deep %d", i)
		}
	}
	x, y := alt(many(empty(), 1000000)...), alt(many(empty(), 1000000)...)
	if !rx.Same(x, y) {
		t.Error("wide, the same")
	}
	y.Kids[999999] = in('a')
	if rx.Same(x, y) {
		t.Error("wide, not the same")
	}
	if rx.Same(loop(api.Rep), in('a')) || rx.Same(nest(in('a'), 30, inOption), loop(api.Rep)) {
		t.Error("its own kid, and another pattern")
	}
	rx.Same(loop(api.Rep), loop(api.Rep))
}

// shortest is the length of the shortest text that x matches.
func shortest(x api.Rx) int {
	switch x.Kind {
	case api.Bytes:
		return 1
	case api.Alt:
		n := math.MaxInt
		for _, kid := range x.Kids {
			n = min(n, shortest(kid))
		}
		return n
	case api.Rep:
		return x.Lo * shortest(x.Kids[0])
	}
	n := 0
	for _, kid := range x.Kids {
		n += shortest(kid)
	}
	return n
}

func TestC5Null(t *testing.T) {
	a, e := in('a'), empty()
	for i, c := range []struct {
		x    api.Rx
		want bool
	}{
		{e, true},
		{a, false},
		{in(0), false},
		{span(0, 255), false},
		{cat(e, e), true},
		{cat(a, e), false},
		{cat(e, e, a), false},
		{alt(a, e), true},
		{alt(e, a), true},
		{alt(a, a), false},
		{rep(a, 0, 1), true},
		{rep(a, 0, -1), true},
		{rep(a, 0, 20), true},
		{rep(a, 1, 1), false},
		{rep(a, 1, -1), false},
		{rep(a, 20, -1), false},
		{rep(e, 20, 20), true},
		{rep(alt(a, e), 20, -1), true},
		{rep(cat(a, e), 3, 4), false},
		{rep(rep(a, 0, 1), 2, 2), true},
		{rep(rep(a, 1, 1), 0, 1), true},
		{cat(rep(a, 0, 1), rep(a, 0, -1), alt(a, e)), true},
		{cat(rep(a, 0, 1), rep(a, 1, -1), alt(a, e)), false},
		{nest(a, 19, inTwo), true},
		{nest(a, 19, func(_ int, x api.Rx) api.Rx { return rep(x, 1, 1) }), false},
		{alt(append(many(a, 199), rep(a, 0, 1))...), true},
		{alt(many(e, 999)...), true},
	} {
		if got := rx.Null(c.x); got != c.want {
			t.Errorf("%d: %t, want %t", i, got, c.want)
		}
	}
	for i, x := range samples() {
		if slowSize(x) <= 200 && rx.Null(x) != (shortest(x) == 0) {
			t.Fatalf("sample %d: %t", i, rx.Null(x))
		}
	}
}

// small are all patterns of at most the given levels over a few sets and numbers, Cats and Alts having two or three kids.
func small(levels int) []api.Rx {
	l := []api.Rx{empty(), in('a'), in('-'), in('a', '-')}
	if levels == 1 {
		return l
	}
	below := small(levels - 1)
	for _, x := range below {
		for _, p := range [][2]int{{0, -1}, {1, 1}, {1, 11}, {11, 11}} {
			l = append(l, rep(x, p[0], p[1]))
		}
		for _, y := range below {
			for _, z := range append(below[:4:4], api.Rx{}) {
				kids := []api.Rx{x, y, z}
				if z.Kind == 0 {
					kids = kids[:2]
				}
				l = append(l, cat(kids...), alt(kids...))
			}
		}
	}
	return l
}

func TestC6DifferentPatternsHaveDifferentTexts(t *testing.T) {
	seen := map[string]api.Rx{}
	add := func(x api.Rx) {
		s, e := rx.Print(x)
		if e != api.OK {
			return
		}
		if y, ok := seen[s]; ok && !rx.Same(x, y) {
			t.Fatalf("two patterns with the text %q", s)
		}
		seen[s] = x
	}
	for _, x := range small(3) {
		add(x)
	}
	for _, x := range samples() {
		add(x)
	}
	for b := range 256 {
		for c := range 256 {
			add(in(b, c))
			add(span(b, c))
			add(cat(in(b), in(c)))
		}
	}
	if len(seen) < 100000 {
		t.Errorf("only %d texts", len(seen))
	}
}

func TestArgumentsStayAsTheyAre(t *testing.T) {
	tail := api.Rx{Kind: 77, Lo: 7}
	room := append(make([]api.Rx, 0, 4), in('a'), rep(alt(in('b'), empty()), 2, 3), tail, tail)
	x := api.Rx{Kind: api.Cat, Kids: room[:2]}
	before, roomBefore := clone(x), clone(api.Rx{Kids: room}).Kids
	for range 2 {
		if s, _ := rx.Print(x); s != "a(b|()){2,3}" || rx.Size(x) != 4 || !rx.Right(x) || rx.Null(x) || !rx.Same(x, before) {
			t.Error("another answer for the same pattern")
		}
	}
	if !reflect.DeepEqual(x, before) || !reflect.DeepEqual(room, roomBefore) {
		t.Error("an argument was modified")
	}
	for name, y := range odd() {
		before := clone(y)
		rx.Print(y)
		rx.Null(y)
		rx.Same(y, x)
		if !reflect.DeepEqual(y, before) {
			t.Errorf("%s: modified", name)
		}
	}
}
