package read_test

import (
	"reflect"
	"strconv"
	"strings"
	"testing"

	"heckle/api"
	"heckle/read"
	"heckle/rx"
)

// in builds Bytes of single bytes, without the packages under test.
func in(list ...int) api.Rx {
	var s api.Set
	for _, b := range list {
		s[b/64] |= 1 << (b % 64)
	}
	return api.Rx{Kind: api.Bytes, Set: s}
}

// span builds Bytes of all bytes from the first to the last.
func span(first, last int) api.Rx {
	var list []int
	for b := first; b <= last; b++ {
		list = append(list, b)
	}
	return in(list...)
}

func empty() api.Rx { return api.Rx{Kind: api.Empty} }

func cat(kids ...api.Rx) api.Rx { return api.Rx{Kind: api.Cat, Kids: kids} }

func alt(kids ...api.Rx) api.Rx { return api.Rx{Kind: api.Alt, Kids: kids} }

func rep(x api.Rx, lo, hi int) api.Rx {
	return api.Rx{Kind: api.Rep, Lo: lo, Hi: hi, Kids: []api.Rx{x}}
}

// same holds patterns against each other field by field, without the packages under test.
func same(x, y api.Rx) bool {
	if x.Kind != y.Kind || x.Set != y.Set || x.Lo != y.Lo || x.Hi != y.Hi || len(x.Kids) != len(y.Kids) {
		return false
	}
	for i := range x.Kids {
		if !same(x.Kids[i], y.Kids[i]) {
			return false
		}
	}
	return true
}

// reads asks that s is the text of want.
func reads(t *testing.T, s string, defs []api.Def, fold bool, want api.Rx) {
	t.Helper()
	if x, e, at := read.Read(s, defs, fold); e != api.OK || at != 0 || !same(x, want) {
		t.Errorf("%q, %v: %v, %d at %d, not %v", s, fold, x, e, at, want)
	}
}

// fails asks that s has an error, and that nothing is told beside it.
func fails(t *testing.T, s string, defs []api.Def, e api.Errno, at int) {
	t.Helper()
	for _, fold := range []bool{false, true} {
		if x, f, there := read.Read(s, defs, fold); f != e || there != at || !reflect.ValueOf(x).IsZero() {
			t.Errorf("%q, %v: %v, %d at %d, not %d at %d", s, fold, x, f, there, e, at)
		}
	}
}

var a, b, c = in('a'), in('b'), in('c')

// some are definitions of all kinds, one name of which stands there twice.
func some() []api.Def {
	return []api.Def{
		{Name: "D", Rx: span('0', '9')},
		{Name: "ab", Rx: cat(a, b)},
		{Name: "or", Rx: alt(a, b)},
		{Name: "_", Rx: empty()},
		{Name: "r9", Rx: rep(cat(a, alt(b, c)), 2, -1)},
		{Name: "D", Rx: in('x')},
		{Name: "abcdefghijkl", Rx: in('l')},
	}
}

func TestD1Names(t *testing.T) {
	for _, s := range []string{"a", "z", "A", "Z", "_", "__", "a0", "Z9", "_0", "aZ_9", "abcdefghijkl", "_23456789012"} {
		if !read.Name(s) {
			t.Errorf("%q is a name", s)
		}
	}
	for _, s := range []string{"", "0", "9a", "abcdefghijklm", "_234567890123", "a b", "a-", "é", "aé", "a\x00", "a\n", strings.Repeat("a", 100000)} {
		if read.Name(s) {
			t.Errorf("%q is no name", s)
		}
	}
}

func TestD1EveryByte(t *testing.T) {
	for b := range 256 {
		first := strings.IndexByte(letters+"_", byte(b)) >= 0
		later := first || strings.IndexByte(digits, byte(b)) >= 0
		one := string([]byte{byte(b)})
		if read.Name(one) != first || read.Name(one+"a") != first {
			t.Errorf("byte %d as the first one", b)
		}
		if read.Name("a"+one) != later || read.Name("a"+one+"a") != later || read.Name("abcdefghijk"+one) != later {
			t.Errorf("byte %d behind the first one", b)
		}
	}
}

func TestD2EveryByteAlone(t *testing.T) {
	for b := range 256 {
		s := string([]byte{byte(b)})
		if strings.IndexByte(alone, byte(b)) >= 0 {
			reads(t, s, nil, false, in(b))
			reads(t, "a"+s, nil, false, cat(a, in(b)))
		} else if strings.IndexByte("|()[].{\\*+?", byte(b)) < 0 {
			fails(t, s, nil, api.ErrSyntax, 0)
			fails(t, "a"+s, nil, api.ErrSyntax, 1)
			fails(t, "(a|"+s+")", nil, api.ErrSyntax, 3)
		}
	}
	if len(alone) != 52+10+14 {
		t.Error("the bytes that stand alone are 76")
	}
}

func TestD2EveryByteEscaped(t *testing.T) {
	for b := range 256 {
		s := "\\" + string([]byte{byte(b)})
		switch {
		case b == 'x':
			fails(t, s, nil, api.ErrSyntax, 2)
		case b == 'n':
			reads(t, s, nil, false, in(10))
			reads(t, "["+s+"]", nil, true, in(10))
		case b == 't':
			reads(t, s, nil, false, in(9))
			reads(t, "["+s+"]", nil, true, in(9))
		case strings.IndexByte(escapable, byte(b)) >= 0:
			reads(t, s, nil, false, in(b))
			reads(t, "["+s+"]", nil, true, in(b))
		default:
			fails(t, s, nil, api.ErrSyntax, 1)
			fails(t, "["+s+"]", nil, api.ErrSyntax, 2)
			fails(t, "[!-"+s+"]", nil, api.ErrSyntax, 4)
		}
	}
	if len(escapable) != 94-62 {
		t.Error("the bytes from 33 to 126 beside letters and digits are 32")
	}
}

func TestD2HexEscapes(t *testing.T) {
	const hex = "0123456789abcdef"
	for b := range 256 {
		s := "\\x" + hex[b/16:b/16+1] + hex[b%16:b%16+1]
		reads(t, s, nil, false, in(b))
		reads(t, s+"c", nil, false, cat(in(b), c))
		reads(t, "["+s+"]", nil, false, in(b))
		reads(t, "["+s+"-\\xff]", nil, false, span(b, 255))
		no := string([]byte{byte(b)})
		if strings.IndexByte(hex, byte(b)) < 0 {
			fails(t, "\\x"+no+"0", nil, api.ErrSyntax, 2)
			fails(t, "\\x0"+no, nil, api.ErrSyntax, 3)
			fails(t, "a[\\xf"+no+"]", nil, api.ErrSyntax, 5)
		}
	}
	for s, at := range map[string]int{"\\": 1, "a\\": 2, "\\x": 2, "\\xa": 3, "[\\": 2, "[\\x": 3, "[\\x1": 4, "[\\x12": 5, "[a-\\": 4, "(\\)": 3} {
		fails(t, s, nil, api.ErrSyntax, at)
	}
}

func TestD2Dot(t *testing.T) {
	all := span(0, 255)
	all.Set[0] &^= 1 << 10
	reads(t, ".", nil, false, all)
	reads(t, "..", nil, true, cat(all, all))
	reads(t, "[.]", nil, false, in('.'))
}

func TestD2EveryByteInClass(t *testing.T) {
	for b := range 256 {
		s := string([]byte{byte(b)})
		switch {
		case strings.IndexByte(inClasses, byte(b)) >= 0:
			reads(t, "["+s+"]", nil, false, in(b))
			reads(t, "[\\x00-"+s+"]", nil, false, span(0, b))
			reads(t, "["+s+"-~]", nil, false, span(b, '~'))
			reads(t, "[^"+s+"]", nil, false, complement(in(b)))
		case b != '\\':
			if b != '^' {
				fails(t, "["+s+"]", nil, api.ErrSyntax, 1)
			}
			if b != ']' && b != '-' {
				fails(t, "[a"+s+"]", nil, api.ErrSyntax, 2)
			}
			fails(t, "[^"+s+"]", nil, api.ErrSyntax, 2)
			fails(t, "[!-"+s+"]", nil, api.ErrSyntax, 3)
		}
	}
	if len(inClasses) != 94-4 {
		t.Error("the bytes that stand in classes are 90")
	}
}

func complement(x api.Rx) api.Rx {
	for i := range x.Set {
		x.Set[i] = ^x.Set[i]
	}
	return x
}

func TestD2Classes(t *testing.T) {
	reads(t, "[a-cx]", nil, false, in('a', 'b', 'c', 'x'))
	reads(t, "[a-a]", nil, false, a)
	reads(t, "[aab-ba-b]", nil, false, in('a', 'b'))
	reads(t, "[a\\-c]", nil, false, in('a', '-', 'c'))
	reads(t, "[\\^a]", nil, false, in('a', '^'))
	reads(t, "[^\\^]", nil, false, complement(in('^')))
	reads(t, "[[]", nil, false, in('['))
	reads(t, "[\\x00-\\xff]", nil, false, span(0, 255))
	reads(t, "[^\\x01-\\xff]", nil, false, in(0))
	reads(t, "[^\\x00-\\xfe]", nil, false, in(255))
	reads(t, "[(|)*+?{}/$\"]", nil, false, in('(', '|', ')', '*', '+', '?', '{', '}', '/', '$', '"'))
}

func TestD2ClassErrors(t *testing.T) {
	for s, at := range map[string]int{
		"[": 1, "a[": 2, "[]": 1, "[]a]": 1, "[^": 2, "[^]": 2, "[^^]": 2, "[a^]": 2, "[a": 2, "[a-": 3, "[a-]": 3, "[a-b": 4, "[-a]": 1,
		"[a-b-c]": 4, "[a--]": 3, "[a-^]": 3, "[a b]": 2, "[a\n]": 2, "[\x80]": 1, "[\x7f]": 1, "[a]]": 3, "[^\\x00-\\xff": 11,
		"[b-\\q]": 4, "[b-\\x6]": 6,
	} {
		fails(t, s, nil, api.ErrSyntax, at)
	}
	for s, at := range map[string]int{
		"[b-a]": 3, "x[b-a]": 4, "[^b-a]": 4, "[ab-a]": 4, "[b-\\x61]": 3, "[b-\\n]": 3, "[\\xff-\\xfe]": 6, "[a-Z]": 3, "[b-a": 3, "[b-a ]": 3,
		"[^\\x00-\\xff]": 0, "x[^\\x00-\\xff]": 1, "[^\\x00-yz-\\xff]": 0, "([^\\x00-\\xff]": 1, "[^\\x00-\\xff] ": 0,
	} {
		fails(t, s, nil, api.ErrRange, at)
	}
}

func TestD2Fold(t *testing.T) {
	both := in('a', 'A')
	reads(t, "a", nil, true, both)
	reads(t, "A", nil, true, both)
	reads(t, "\\x61", nil, true, both)
	reads(t, "z|Z", nil, true, alt(in('z', 'Z'), in('z', 'Z')))
	reads(t, "1_@`~", nil, true, cat(in('1'), in('_'), in('@'), in('`'), in('~')))
	reads(t, "\\[\\{", nil, true, cat(in('['), in('{')))
	reads(t, "[a-b1]", nil, true, in('1', 'A', 'B', 'a', 'b'))
	reads(t, "[^a]", nil, true, complement(both))
	reads(t, "[^\\x00-@B-\\xfe]", nil, true, in(255))
	reads(t, "[^\\x00-@B-\\xfe]", nil, false, in('A', 255))
	reads(t, "{ab}", some(), true, cat(a, b))
	reads(t, "{or}a", some(), true, cat(alt(a, b), both))
	reads(t, "[^\\x00-@B-\\xff]", nil, false, in('A'))
	if x, e, at := read.Read("x[^\\x00-@B-\\xff]", nil, true); e != api.ErrRange || at != 1 || x.Kind != 0 {
		t.Errorf("a class that is without bytes when folded: %v, %d at %d", x, e, at)
	}
}

func TestD2QuantifierMarks(t *testing.T) {
	reads(t, "a*", nil, false, rep(a, 0, -1))
	reads(t, "a+", nil, false, rep(a, 1, -1))
	reads(t, "a?", nil, false, rep(a, 0, 1))
	reads(t, "ab*", nil, false, cat(a, rep(b, 0, -1)))
	reads(t, "(ab)*", nil, false, rep(cat(a, b), 0, -1))
	reads(t, "()*", nil, false, rep(empty(), 0, -1))
	reads(t, "a*+?{2}{0,}{1,3}", nil, false, rep(rep(rep(rep(rep(rep(a, 0, -1), 1, -1), 0, 1), 2, 2), 0, -1), 1, 3))
	reads(t, "[ab]+.?", nil, false, cat(rep(in('a', 'b'), 1, -1), rep(complement(in(10)), 0, 1)))
	reads(t, "a(b|c)*", nil, false, cat(a, rep(alt(b, c), 0, -1)))
	reads(t, "{D}+", some(), false, rep(span('0', '9'), 1, -1))
	reads(t, "{D}{2}{D}", some(), false, cat(rep(span('0', '9'), 2, 2), span('0', '9')))
	for _, mark := range []string{"*", "+", "?"} {
		for _, before := range []string{"", "|", "a|", "(", "a(", "(a|"} {
			fails(t, before+mark, nil, api.ErrSyntax, len(before))
			fails(t, before+mark+"a)", nil, api.ErrSyntax, len(before))
		}
	}
}

func TestD2QuantifierNumbers(t *testing.T) {
	for n := range 1002 {
		s := "b{" + strconv.Itoa(n) + "}"
		switch {
		case n > 999:
			fails(t, s, nil, api.ErrSyntax, 5)
			fails(t, "b{1,"+s[2:], nil, api.ErrSyntax, 7)
			continue
		case n > 20:
			fails(t, s, nil, api.ErrRange, 1)
			fails(t, "b{"+strconv.Itoa(n)+",}", nil, api.ErrRange, 1)
			fails(t, "b{1,"+s[2:], nil, api.ErrRange, 1)
			continue
		case n == 0:
			fails(t, s, nil, api.ErrRange, 1)
		default:
			reads(t, s, nil, false, rep(b, n, n))
		}
		reads(t, "b{"+strconv.Itoa(n)+",}", nil, false, rep(b, n, -1))
		for m := range 23 {
			two := "b{" + strconv.Itoa(n) + "," + strconv.Itoa(m) + "}"
			if m < n || m == 0 || m > 20 {
				fails(t, two, nil, api.ErrRange, 1)
				fails(t, "(a|"+two, nil, api.ErrRange, 4)
			} else {
				reads(t, two, nil, false, rep(b, n, m))
			}
		}
	}
}

func TestD2QuantifierSyntax(t *testing.T) {
	for s, at := range map[string]int{
		"a{1": 3, "a{1x}": 3, "a{1,": 4, "a{1,x}": 4, "a{1,,}": 4, "a{1,2": 5, "a{1,2,}": 5, "a{1,2,3}": 5, "a{1 }": 3, "a{1,2 }": 5, "a{1234}": 5, "a{1,1234}": 7,
		"a{0": 3, "a{21": 4, "a{21,": 5, "a{3,2": 5, "a{21x}": 4, "a{1{": 3, "a{999,9999}": 9, "a{1-}": 3, "a{2}}": 4, "a{1,\x31\xff": 5, "a{1,-1}": 4,
		// A number does not begin with 0, but for 0 itself.
		"a{00}": 3, "a{01}": 3, "a{020}": 3, "a{0000}": 3, "a{1,01}": 5, "a{1,00}": 5, "a{00,1}": 3,
	} {
		fails(t, s, nil, api.ErrSyntax, at)
	}
}

func TestD2Names(t *testing.T) {
	defs := some()
	reads(t, "{D}", defs, false, span('0', '9'))
	reads(t, "{ab}", defs, false, cat(a, b))
	reads(t, "{_}", defs, false, empty())
	reads(t, "{r9}", defs, false, rep(cat(a, alt(b, c)), 2, -1))
	reads(t, "{abcdefghijkl}", defs, false, in('l'))
	reads(t, "a{D}", defs, false, cat(a, span('0', '9')))
	reads(t, "a|{D}*", defs, false, alt(a, rep(span('0', '9'), 0, -1)))
	for s, at := range map[string]int{
		"{}": 1, "{": 1, "a{": 2, "a{}": 2, "{2}": 1, "{2,}": 1, "|{2}": 2, "({2}": 2, "{9D}": 1, "{D D}": 1, "{D|D}": 1, "{D-}": 1, "{é}": 1, "{abcdefghijklm}": 1,
		"{ D}": 1, "{D\n}": 1, "a{,2}": 2, "{-": 1, "{2": 1, "{abcdefghijklm": 1, "{D{D}": 1, "{D*": 1, "{D": 2, "ab{D": 4, "{E": 2, "{ab}{D": 6, "}": 0, "a}": 1, "{D}}": 3,
	} {
		fails(t, s, defs, api.ErrSyntax, at)
	}
	for s, at := range map[string]int{"{E}": 1, "{d}": 1, "a{E}": 2, "{D}{E}": 4, "{a}": 1, "{abc}": 1, "{E}*": 1, "({E}": 2, "{E}}": 1, "{abcdefghijk}": 1, "{__}": 1} {
		fails(t, s, defs, api.ErrName, at)
	}
	fails(t, "{D}", nil, api.ErrName, 1)
}

func TestD2Joins(t *testing.T) {
	defs := some()
	for s, want := range map[string]api.Rx{
		"":                empty(),
		"()":              empty(),
		"(())":            empty(),
		"|":               alt(empty(), empty()),
		"||":              alt(empty(), empty(), empty()),
		"(|)":             alt(empty(), empty()),
		"a|":              alt(a, empty()),
		"|a":              alt(empty(), a),
		"()a":             cat(empty(), a),
		"()()":            cat(empty(), empty()),
		"abc":             cat(a, b, c),
		"(a)":             a,
		"(((a)))":         a,
		"(ab)c":           cat(a, b, c),
		"a(bc)":           cat(a, b, c),
		"(ab)(ca)":        cat(a, b, c, a),
		"((ab)c)(a)":      cat(a, b, c, a),
		"a|b|c":           alt(a, b, c),
		"(a|b)|c":         alt(a, b, c),
		"a|(b|c)":         alt(a, b, c),
		"(a|b)|(c|a)":     alt(a, b, c, a),
		"((a|b)|c)|a":     alt(a, b, c, a),
		"(a|b)c":          cat(alt(a, b), c),
		"(a|b)":           alt(a, b),
		"(a|b)(b|c)":      cat(alt(a, b), alt(b, c)),
		"(a|b)()|c":       alt(cat(alt(a, b), empty()), c),
		"(ab)*c":          cat(rep(cat(a, b), 0, -1), c),
		"(a|b)*|c":        alt(rep(alt(a, b), 0, -1), c),
		"ab|c":            alt(cat(a, b), c),
		"(ab|c)(ab)":      cat(alt(cat(a, b), c), a, b),
		"{ab}c":           cat(a, b, c),
		"{ab}{ab}":        cat(a, b, a, b),
		"c{ab}|a":         alt(cat(c, a, b), a),
		"{or}|c":          alt(a, b, c),
		"{or}|{or}":       alt(a, b, a, b),
		"{or}c":           cat(alt(a, b), c),
		"{ab}|{ab}":       alt(cat(a, b), cat(a, b)),
		"{ab}{2}":         rep(cat(a, b), 2, 2),
		"({or})":          alt(a, b),
		"a(|(b|())c)|{_}": alt(cat(a, alt(empty(), cat(alt(b, empty()), c))), empty()),
	} {
		reads(t, s, defs, false, want)
	}
}

func TestD2Parentheses(t *testing.T) {
	for s, at := range map[string]int{"(": 1, "(a": 2, "a(b|": 4, "((a)": 4, ")": 0, "a)": 1, "(a))": 3, "|)": 1, "())(": 2, "(a|b": 4, "(*)": 1} {
		fails(t, s, nil, api.ErrSyntax, at)
	}
	open := func(n int) string { return strings.Repeat("(", n) }
	shut := func(n int) string { return strings.Repeat(")", n) }
	reads(t, open(20)+"a"+shut(20), nil, false, a)
	reads(t, open(20)+"a"+shut(20)+open(20)+"b"+shut(20), nil, false, cat(a, b))
	reads(t, open(19)+"(a)(b)(c)"+shut(19), nil, false, cat(a, b, c))
	reads(t, strings.Repeat("(a)", 60), nil, false, cat(several(a, 60)...))
	fails(t, open(21)+"a"+shut(21), nil, api.ErrLong, 20)
	fails(t, open(21), nil, api.ErrLong, 20)
	fails(t, open(5000), nil, api.ErrLong, 20)
	fails(t, "(a)|b"+open(20)+"a|("+shut(21), nil, api.ErrLong, 27)
	fails(t, open(20), nil, api.ErrSyntax, 20)
	reads(t, "[("+open(30)+"]", nil, false, in('('))
	reads(t, strings.Repeat("\\(", 30), nil, false, cat(several(in('('), 30)...))
}

// several is n times the same pattern.
func several(x api.Rx, n int) []api.Rx {
	l := make([]api.Rx, n)
	for i := range l {
		l[i] = x
	}
	return l
}

// nested is an option in an option and so on, n patterns in all.
func nested(n int) api.Rx {
	x := a
	for range n - 1 {
		x = rep(x, 0, 1)
	}
	return x
}

func TestD2TooLong(t *testing.T) {
	reads(t, strings.Repeat("a", 200), nil, false, cat(several(a, 200)...))
	fails(t, strings.Repeat("a", 201), nil, api.ErrLong, 0)
	reads(t, "a"+strings.Repeat("?", 19), nil, false, nested(20))
	fails(t, "a"+strings.Repeat("?", 20), nil, api.ErrLong, 0)
	fails(t, "a"+strings.Repeat("*", 9999), nil, api.ErrLong, 0)
	reads(t, "(a{10}){20}", nil, false, rep(rep(a, 10, 10), 20, 20))
	fails(t, "(a{11}){20}", nil, api.ErrLong, 0)
	reads(t, strings.Repeat("|", 998), nil, false, alt(several(empty(), 999)...))
	fails(t, strings.Repeat("|", 999), nil, api.ErrLong, 0)
	deep := []api.Def{{Name: "N", Rx: nested(20)}, {Name: "n", Rx: nested(19)}}
	reads(t, "{N}", deep, false, nested(20))
	reads(t, "{n}a", deep, false, cat(nested(19), a))
	fails(t, "{N}a", deep, api.ErrLong, 0)
	fails(t, "{N}?", deep, api.ErrLong, 0)
	reads(t, "{ab}{ab}", []api.Def{{Name: "ab", Rx: cat(several(a, 100)...)}}, false, cat(several(a, 200)...))
	fails(t, "{ab}{ab}a", []api.Def{{Name: "ab", Rx: cat(several(a, 100)...)}}, api.ErrLong, 0)
}

func TestD2ManyDefinitions(t *testing.T) {
	two := []api.Def{{Name: "C", Rx: cat(empty(), empty())}, {Name: "A", Rx: alt(empty(), empty())}}
	reads(t, strings.Repeat("{C}", 499), two, false, cat(several(empty(), 998)...))
	reads(t, strings.Repeat("{C}", 499)+"()", two, false, cat(several(empty(), 999)...))
	fails(t, strings.Repeat("{C}", 500), two, api.ErrLong, 0)
	fails(t, strings.Repeat("{C}", 3333), two, api.ErrLong, 0)
	reads(t, strings.Repeat("{A}", 333), two, false, cat(several(two[1].Rx, 333)...))
	fails(t, strings.Repeat("{A}", 334), two, api.ErrLong, 0)
	reads(t, "{A}"+strings.Repeat("|{A}", 498), two, false, alt(several(empty(), 998)...))
	big := []api.Def{{Name: "B", Rx: cat(several(empty(), 999)...)}, {Name: "b", Rx: alt(several(empty(), 999)...)}}
	reads(t, "{B}", big, false, big[0].Rx)
	fails(t, "{B}()", big, api.ErrLong, 0)
	fails(t, strings.Repeat("{B}|", 2500), big, api.ErrLong, 0)
	fails(t, strings.Repeat("{b}", 3333), big, api.ErrLong, 0)
	fails(t, strings.Repeat("{b}", 3332)+"{c}", big, api.ErrName, 9997)
	fails(t, strings.Repeat("{b}", 3332)+"]", big, api.ErrSyntax, 9996)
}

func TestD2ErrorsAheadOfTooLong(t *testing.T) {
	long := strings.Repeat("a", 300)
	for s, want := range map[string]bad{
		long + ")":                    {api.ErrSyntax, 300},
		long + "(":                    {api.ErrSyntax, 301},
		long + "{E}":                  {api.ErrName, 301},
		long + "{21}":                 {api.ErrRange, 300},
		long + "[b-a]":                {api.ErrRange, 303},
		long + "[^\\x00-\\xff]":       {api.ErrRange, 300},
		"*" + strings.Repeat("(", 30): {api.ErrSyntax, 0},
		strings.Repeat("(", 30) + "*": {api.ErrLong, 20},
		"{E}*)":                       {api.ErrName, 1},
		"a{21}{E}":                    {api.ErrRange, 1},
		"a{E}{21}":                    {api.ErrName, 2},
		"[b-a]{E}":                    {api.ErrRange, 3},
		") ":                          {api.ErrSyntax, 0},
	} {
		fails(t, s, nil, want.e, want.at)
	}
}

func TestD2TextLength(t *testing.T) {
	fails(t, strings.Repeat("a", 9999)+" ", nil, api.ErrSyntax, 9999)
	fails(t, strings.Repeat("a", 10000), nil, api.ErrLong, 0)
	fails(t, " "+strings.Repeat("a", 9999), nil, api.ErrSyntax, 0)
	fails(t, " "+strings.Repeat("a", 10000), nil, api.ErrLong, 0)
	fails(t, strings.Repeat(" ", 1<<20), []api.Def{{}}, api.ErrLong, 0)
	reads(t, strings.Repeat("()", 999), nil, false, cat(several(empty(), 999)...))
	reads(t, "["+strings.Repeat("a", 9998)+"]", nil, false, a)
	fails(t, "["+strings.Repeat("a", 9999)+"]", nil, api.ErrLong, 0)
}

func TestD2WrongDefinitions(t *testing.T) {
	loop := make([]api.Rx, 1)
	loop[0] = api.Rx{Kind: api.Rep, Hi: 1, Kids: loop}
	twice := make([]api.Rx, 2)
	twice[0], twice[1] = cat(twice...), a
	twice[0].Kids = twice
	for _, wrong := range []api.Def{
		{},
		{Name: "", Rx: a},
		{Name: "1", Rx: a},
		{Name: "a b", Rx: a},
		{Name: "abcdefghijklm", Rx: a},
		{Name: "D"},
		{Name: "D", Rx: in()},
		{Name: "D", Rx: cat(a)},
		{Name: "D", Rx: cat(a, cat(a, b))},
		{Name: "D", Rx: rep(a, 2, 1)},
		{Name: "D", Rx: rep(a, 0, 21)},
		{Name: "D", Rx: nested(21)},
		{Name: "D", Rx: cat(several(a, 201)...)},
		{Name: "D", Rx: cat(several(empty(), 1000)...)},
		{Name: "D", Rx: api.Rx{Kind: 6}},
		{Name: "D", Rx: api.Rx{Kind: -1}},
		{Name: "D", Rx: loop[0]},
		{Name: "D", Rx: twice[0]},
	} {
		fails(t, "a", []api.Def{wrong}, api.ErrArg, 0)
		fails(t, " ", append(some(), wrong), api.ErrArg, 0)
		fails(t, "{D}", append([]api.Def{wrong}, some()...), api.ErrArg, 0)
		fails(t, strings.Repeat("a", 10001), []api.Def{wrong}, api.ErrLong, 0)
	}
	var lots []api.Def
	for range 100 {
		lots = append(lots, some()...)
	}
	reads(t, "{r9}", append(lots, api.Def{Name: "last", Rx: c}), false, rep(cat(a, alt(b, c)), 2, -1))
	reads(t, "{last}", append(lots, api.Def{Name: "last", Rx: c}), false, c)
}

// dice are numbers that are the same in each run.
type dice uint64

func (d *dice) roll(n int) int {
	*d ^= *d << 13
	*d ^= *d >> 7
	*d ^= *d << 17
	return int(uint64(*d) >> 11 % uint64(n))
}

// pick makes a text of up to n of the parts.
func (d *dice) pick(n int, parts []string) string {
	var s strings.Builder
	for range d.roll(n + 1) {
		s.WriteString(parts[d.roll(len(parts))])
	}
	return s.String()
}

// agree asks that Read answers as the oracle does.
func agree(t *testing.T, s string, defs []api.Def, fold bool) api.Errno {
	t.Helper()
	x, e, at := read.Read(s, defs, fold)
	y, f, there := oracle(s, defs, fold)
	if e != f || at != there || !same(x, y) {
		t.Fatalf("%q, %v: %v, %d at %d, not %v, %d at %d", s, fold, x, e, at, y, f, there)
	}
	if e == api.OK && !rx.Right(x) {
		t.Fatalf("%q, %v: %v is not valid", s, fold, x)
	}
	return e
}

func TestD2AgainstOracle(t *testing.T) {
	whole := []string{"a", "B", "1", "ab|", "|", "(", ")", ")", "(a", "*", "+", "?", "{2}", "{1,3}", "{0,}", "{0}", "{21}", "{D}", "{ab}", "{or}", "{r9}", "{_}", "{E}", ".", "[a-c]", "[^b]", "[^a-z]", "\\x4a", "\\n", "\\*"}
	bits := []string{"a", "f", "x", "Z", "_", "0", "1", "9", "{", "}", ",", "[", "]", "^", "-", "\\", "(", ")", "|", "*", "?", "+", ".", "/", "$", "<", ">", "\"", " ", "\n", "\x00", "\x7f", "\xff", "~", "!", "D"}
	d := dice(7)
	seen := map[api.Errno]int{}
	for i := range 60000 {
		var s string
		switch i % 3 {
		case 0:
			s = d.pick(8, whole)
		case 1:
			s = d.pick(8, bits)
		case 2:
			s = d.pick(4, whole) + d.pick(2, bits) + d.pick(4, whole)
		}
		seen[agree(t, s, some(), i%2 == 0)]++
	}
	for _, e := range []api.Errno{api.OK, api.ErrSyntax, api.ErrName, api.ErrRange} {
		if seen[e] < 500 {
			t.Errorf("only %d texts with %d", seen[e], e)
		}
	}
}

func TestD2EveryShortText(t *testing.T) {
	var all func(s string, n int, bytes string)
	all = func(s string, n int, bytes string) {
		agree(t, s, some(), false)
		for i := 0; n > 0 && i < len(bytes); i++ {
			all(s+bytes[i:i+1], n-1, bytes)
		}
	}
	all("", 4, "aD{}1,(|)*")
	all("[", 5, "ab^-]\\")
	all("a{", 5, "012,}")
	all("a\\", 3, "xnta0F-\\ ")
}

// any makes a pattern as in layer 3's table, of at most the given levels, whose kind isn't the one that is barred.
func (d *dice) any(levels, barred int) api.Rx {
	kind := api.Empty + d.roll(5)
	if levels == 1 {
		kind = api.Empty + d.roll(2)
	}
	switch {
	case kind == barred || kind == api.Bytes:
		first := d.roll(256)
		x := span(first, min(255, first+d.roll(3)))
		x.Set[d.roll(4)] |= 1 << d.roll(64)
		return x
	case kind == api.Empty:
		return empty()
	case kind == api.Rep:
		lo := d.roll(21)
		hi := max(lo, 1) + d.roll(21-max(lo, 1))
		if d.roll(2) == 0 {
			lo, hi = d.roll(3), -1
		}
		return rep(d.any(levels-1, 0), lo, hi)
	}
	x := api.Rx{Kind: kind}
	for range 2 + d.roll(3) {
		x.Kids = append(x.Kids, d.any(levels-1, kind))
	}
	return x
}

func TestD3ReadUndoesPrint(t *testing.T) {
	d := dice(3)
	n := 0
	for range 20000 {
		x := d.any(1+d.roll(6), 0)
		if s, e := rx.Print(x); e == api.OK && len(s) <= api.MaxText {
			n++
			reads(t, s, nil, false, x)
			reads(t, s, some(), false, x)
		}
	}
	if n < 5000 {
		t.Errorf("only %d patterns", n)
	}
	x := a
	for i := range 19 {
		if i%2 == 0 {
			x = alt(x, empty())
		} else {
			x = cat(x, empty())
		}
	}
	for _, x := range []api.Rx{x, nested(20), cat(several(a, 200)...), alt(several(empty(), 999)...)} {
		s, e := rx.Print(x)
		if e != api.OK {
			t.Errorf("%v is printed", x)
		}
		reads(t, s, nil, false, x)
	}
}

// wipe writes over all of x.
func wipe(x *api.Rx) {
	kids := x.Kids[:cap(x.Kids)]
	for i := range kids {
		wipe(&kids[i])
	}
	*x = api.Rx{Kind: -7}
}

func TestR3Memory(t *testing.T) {
	spare := make([]api.Def, 8, 9)
	copy(spare, some())
	spare[7] = api.Def{Name: "spare", Rx: cat(append(make([]api.Rx, 0, 4), a, b)...)}
	before := some()
	for _, s := range []string{"{ab}{ab}", "{or}|{or}|{ab}", "({r9}){spare}c", "{spare}{spare}|c", "{r9}{r9}", "{D}", "{E}", "{spare}c{21}"} {
		x, _, _ := read.Read(s, spare, true)
		y, _, _ := read.Read(s, spare, true)
		if !same(x, y) {
			t.Errorf("%q: not the same twice", s)
		}
		if len(x.Kids) > 1 {
			want, _, _ := read.Read(s, spare, true)
			wipe(&x.Kids[0])
			for i, kid := range x.Kids[1:] {
				if !same(kid, want.Kids[i+1]) {
					t.Errorf("%q: two lists share memory", s)
				}
			}
		}
		wipe(&x)
		if !reflect.DeepEqual(spare[:7], before) || !same(spare[7].Rx, cat(a, b)) || spare[7].Rx.Kids[:3][2].Kind != 0 {
			t.Fatalf("%q: the definitions are changed", s)
		}
		if z, _, _ := read.Read(s, spare, true); !same(z, y) {
			t.Errorf("%q: not the same later", s)
		}
	}
}

func TestR3SpareMemory(t *testing.T) {
	room := make([]api.Rx, 2)
	roomy := api.Rx{Kind: api.Bytes, Set: a.Set, Kids: room[:0]}
	defs := []api.Def{{Name: "R", Rx: roomy}, {Name: "S", Rx: cat(roomy, b)}}
	for _, s := range []string{"{R}", "{R}*", "{S}", "{S}|{R}"} {
		x, e, _ := read.Read(s, defs, false)
		wipe(&x)
		if e != api.OK || room[0].Kind != 0 || room[1].Kind != 0 {
			t.Errorf("%q: memory of a definition is handed out", s)
		}
	}
}
