package read_test

import (
	"regexp"
	"strconv"
	"strings"

	"heckle/api"
	"heckle/rx"
)

// The oracle reads by expressions and a stack of open parentheses, not by descent.

var (
	letters    = "abcdefghijklmnopqrstuvwxyzABCDEFGHIJKLMNOPQRSTUVWXYZ"
	digits     = "0123456789"
	alone      = letters + digits + "!#%&',-:;=@_`~"
	inClasses  = letters + digits + "!\"#$%&'()*+,./:;<=>?@[_`{|}~"
	escapable  = "!\"#$%&'()*+,-./:;<=>?@[\\]^_`{|}~"
	properName = regexp.MustCompile(`^[A-Za-z_][A-Za-z_0-9]{0,11}$`)
	aQuant     = regexp.MustCompile(`^\{(0|[1-9][0-9]{0,2})(,(0|[1-9][0-9]{0,2})?)?`)
	hexEscape  = regexp.MustCompile(`^\\x[0-9a-f]{0,2}`)
)

// frame is what stands behind an open parenthesis.
type frame struct{ done, seq []api.Rx }

func (f *frame) endSequence() {
	f.done, f.seq = append(f.done, glue(api.Cat, f.seq)), nil
}

func glue(kind int, l []api.Rx) api.Rx {
	if len(l) == 0 {
		return empty()
	}
	if len(l) == 1 {
		return l[0]
	}
	x := api.Rx{Kind: kind}
	for _, y := range l {
		flat := []api.Rx{y}
		if y.Kind == kind {
			flat = y.Kids
		}
		x.Kids = append(x.Kids, flat...)
	}
	return x
}

// bad is an error of the oracle.
type bad struct {
	e  api.Errno
	at int
}

// oracle is Read for definitions that are right.
func oracle(s string, defs []api.Def, fold bool) (x api.Rx, e api.Errno, at int) {
	if len(s) > 10000 {
		return api.Rx{}, api.ErrLong, 0
	}
	defer func() {
		if b, ok := recover().(bad); ok {
			x, e, at = api.Rx{}, b.e, b.at
		}
	}()
	stack := []*frame{{}}
	for i := 0; i < len(s); {
		top := stack[len(stack)-1]
		quant := strings.IndexByte("*+?", s[i]) >= 0 || s[i] == '{' && i+1 < len(s) && strings.IndexByte(digits, s[i+1]) >= 0
		switch c := s[i]; {
		case len(top.seq) > 0 && quant:
			lo, hi, n := oracleQuant(s, i)
			last := len(top.seq) - 1
			top.seq[last] = rep(top.seq[last], lo, hi)
			i += n
		case c == '|':
			top.endSequence()
			i++
		case c == '(':
			if len(stack) == 21 {
				panic(bad{api.ErrLong, i})
			}
			stack = append(stack, &frame{})
			i++
		case c == ')':
			if len(stack) == 1 {
				panic(bad{api.ErrSyntax, i})
			}
			top.endSequence()
			stack = stack[:len(stack)-1]
			top, x = stack[len(stack)-1], glue(api.Alt, top.done)
			top.seq = append(top.seq, x)
			i++
		default:
			y, n := oracleAtom(s, i, defs, fold)
			top.seq = append(top.seq, y)
			i += n
		}
	}
	if len(stack) > 1 {
		panic(bad{api.ErrSyntax, len(s)})
	}
	stack[0].endSequence()
	x = glue(api.Alt, stack[0].done)
	if !rx.Right(x) {
		panic(bad{api.ErrLong, 0})
	}
	return x, api.OK, 0
}

func oracleQuant(s string, i int) (lo, hi, n int) {
	switch s[i] {
	case '*':
		return 0, -1, 1
	case '+':
		return 1, -1, 1
	case '?':
		return 0, 1, 1
	}
	m := aQuant.FindStringSubmatch(s[i:])
	n = len(m[0])
	if i+n == len(s) || s[i+n] != '}' {
		panic(bad{api.ErrSyntax, i + n})
	}
	lo, _ = strconv.Atoi(m[1])
	hi = lo
	if m[2] != "" {
		hi = -1
	}
	if m[3] != "" {
		hi, _ = strconv.Atoi(m[3])
	}
	if lo > 20 || hi > 20 || hi == 0 || hi > 0 && hi < lo {
		panic(bad{api.ErrRange, i})
	}
	return lo, hi, n + 1
}

func oracleAtom(s string, i int, defs []api.Def, fold bool) (api.Rx, int) {
	switch s[i] {
	case '.':
		all := span(0, 255)
		all.Set[0] &^= 1 << 10
		return all, 1
	case '[':
		return oracleClass(s, i, fold)
	case '{':
		name, _, closed := strings.Cut(s[i+1:], "}")
		if !properName.MatchString(name) {
			panic(bad{api.ErrSyntax, i + 1})
		}
		if !closed {
			panic(bad{api.ErrSyntax, len(s)})
		}
		for _, d := range defs {
			if d.Name == name {
				return d.Rx, len(name) + 2
			}
		}
		panic(bad{api.ErrName, i + 1})
	}
	b, n := oracleByte(s, i, alone)
	return bothCases(fold, b), n
}

// bothCases builds Bytes, of letters in both cases if they are folded.
func bothCases(fold bool, list ...int) api.Rx {
	for _, b := range list {
		if fold && strings.IndexByte(letters, byte(b)) >= 0 {
			list = append(list, b^32)
		}
	}
	return in(list...)
}

func oracleByte(s string, i int, plain string) (b, n int) {
	if i == len(s) {
		panic(bad{api.ErrSyntax, i})
	}
	if s[i] != '\\' {
		if strings.IndexByte(plain, s[i]) < 0 {
			panic(bad{api.ErrSyntax, i})
		}
		return int(s[i]), 1
	}
	if m := hexEscape.FindString(s[i:]); m != "" {
		if len(m) < 4 {
			panic(bad{api.ErrSyntax, i + len(m)})
		}
		v, _ := strconv.ParseInt(m[2:], 16, 32)
		return int(v), 4
	}
	if i+1 == len(s) || strings.IndexByte("nt"+escapable, s[i+1]) < 0 {
		panic(bad{api.ErrSyntax, i + 1})
	}
	return int(strings.NewReplacer("n", "\n", "t", "\t").Replace(s[i+1 : i+2])[0]), 2
}

func oracleClass(s string, begin int, fold bool) (api.Rx, int) {
	i := begin + 1
	others := strings.HasPrefix(s[i:], "^")
	if others {
		i++
	}
	var list []int
	for len(list) == 0 || !strings.HasPrefix(s[i:], "]") {
		first, n := oracleByte(s, i, inClasses)
		i += n
		last := first
		if strings.HasPrefix(s[i:], "-") {
			last, n = oracleByte(s, i+1, inClasses)
			if last < first {
				panic(bad{api.ErrRange, i + 1})
			}
			i += 1 + n
		}
		for b := first; b <= last; b++ {
			list = append(list, b)
		}
	}
	x := bothCases(fold, list...)
	if others {
		for w := range x.Set {
			x.Set[w] = ^x.Set[w]
		}
	}
	if x.Set == (api.Set{}) {
		panic(bad{api.ErrRange, begin})
	}
	return x, i + 1 - begin
}
