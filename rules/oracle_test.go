package rules_test

import (
	"regexp"
	"slices"
	"strings"

	"heckle/api"
	"heckle/read"
)

// The oracle takes lines apart by expressions, and looks at their pieces afterwards.

var (
	aName = regexp.MustCompile(`^[A-Za-z_][A-Za-z_0-9]{0,11}$`)
	// The conditions, then what is matched, up to the space ahead of the action. It fails for no line.
	aRule = regexp.MustCompile(`(?s)^(<\*>|<[^<>][^>]*>?|<>|<$)?(<<EOF>>|(\^?)((?:` + aPiece + `)*)(?:(\$)|(/)((?:` + aPiece + `)*))?)`)
)

// aPiece is an escape, a class, both of which the line may cut off, or another byte of a pattern.
const aPiece = `\\(?:[\x00-\x{10ffff}]|$)|\[(?:\\(?:[\x00-\x{10ffff}]|$)|[^\\\]])*(?:\]|$)|[^ /$\\\[]`

// bad is an error of the oracle.
type bad struct {
	e  api.Errno
	at int
}

// sheet is what the oracle has read.
type sheet struct {
	api.Spec
	defs  []api.Def
	fold  bool
	rules bool
}

// oracle is Parse for texts without bytes above 127, for which the expressions above are made.
func oracle(s string) (x api.Spec, e api.Errno, at int) {
	if len(s) > 10000 {
		return api.Spec{}, api.ErrLong, 0
	}
	defer func() {
		if b, ok := recover().(bad); ok {
			x, e, at = api.Spec{}, b.e, b.at
		}
	}()
	o := sheet{Spec: api.Spec{Conds: []api.Cond{{Name: "INITIAL"}}, Default: true}}
	for _, line := range strings.SplitAfter(s, "\n") {
		if bare := strings.TrimSuffix(line, "\n"); bare != "" {
			o.line(bare, at)
		}
		at += len(line)
	}
	if !o.rules {
		panic(bad{api.ErrSyntax, len(s)})
	}
	return o.Spec, api.OK, 0
}

func (o *sheet) line(line string, at int) {
	kind, rest, _ := strings.Cut(line, " ")
	behind := at + len(kind) + 1
	switch {
	case o.rules:
		o.rule(line, at)
	case line == "%%":
		o.rules = true
	case line == "%nodefault":
		o.Default = false
	case line == "%fold":
		o.fold = true
	case line == kind:
		panic(bad{api.ErrSyntax, at})
	case kind == "%s" || kind == "%x":
		o.fresh(rest, behind, len(o.Conds) >= 8, o.cond(rest) >= 0)
		o.Conds = append(o.Conds, api.Cond{Name: rest, Exclusive: kind == "%x"})
	case kind == "%def":
		o.def(rest, behind)
	default:
		panic(bad{api.ErrSyntax, at})
	}
}

// fresh asks that a name may be given to something new.
func (o *sheet) fresh(name string, at int, full, taken bool) {
	if full {
		panic(bad{api.ErrLong, at})
	}
	if !aName.MatchString(name) {
		panic(bad{api.ErrSyntax, at})
	}
	if taken {
		panic(bad{api.ErrName, at})
	}
}

func (o *sheet) def(rest string, at int) {
	name, text, spaced := strings.Cut(rest, " ")
	taken := slices.ContainsFunc(o.defs, func(d api.Def) bool { return d.Name == name })
	o.fresh(name, at, len(o.defs) >= 20, taken)
	at += len(name)
	if !spaced {
		panic(bad{api.ErrSyntax, at})
	}
	o.defs = append(o.defs, api.Def{Name: name, Rx: o.pattern(text, at+1)})
}

func (o *sheet) pattern(text string, at int) api.Rx {
	if text == "" {
		panic(bad{api.ErrSyntax, at})
	}
	x, e, off := read.Read(text, o.defs, o.fold)
	if e != api.OK {
		panic(bad{e, at + off})
	}
	return x
}

func (o *sheet) cond(name string) int {
	return slices.IndexFunc(o.Conds, func(c api.Cond) bool { return c.Name == name })
}

// known asks for the condition of that name.
func (o *sheet) known(name string, at int) int {
	if !aName.MatchString(name) {
		panic(bad{api.ErrSyntax, at})
	}
	if o.cond(name) < 0 {
		panic(bad{api.ErrName, at})
	}
	return o.cond(name)
}

func (o *sheet) rule(line string, at int) {
	if len(o.Rules) >= 40 {
		panic(bad{api.ErrLong, at})
	}
	m := aRule.FindStringSubmatchIndex(line)
	part := func(i int) string { return line[max(m[2*i], 0):max(m[2*i+1], 0)] }
	r := api.Rule{All: part(1) == "<*>", Eof: part(2) == "<<EOF>>"}
	if !r.All && part(1) != "" {
		r.Conds = o.conds(part(1), at)
	}
	if !r.Eof {
		r.Bol = part(3) == "^"
		r.Rx = o.pattern(part(4), at+m[8])
	}
	if part(5) == "$" {
		r.Trail = in('\n')
	}
	if part(6) == "/" {
		r.Trail = o.pattern(part(7), at+m[14])
	}
	o.action(&r, line[m[1]:], at+m[1])
	o.Rules = append(o.Rules, r)
}

func (o *sheet) conds(text string, at int) []int {
	var l []int
	names, closed := strings.CutSuffix(text[1:], ">")
	at++
	for _, name := range strings.Split(names, ",") {
		c := o.known(name, at)
		if slices.Contains(l, c) {
			panic(bad{api.ErrName, at})
		}
		l = append(l, c)
		at += len(name) + 1
	}
	if !closed {
		panic(bad{api.ErrSyntax, at - 1})
	}
	slices.Sort(l)
	return l
}

func (o *sheet) action(r *api.Rule, text string, at int) {
	if !strings.HasPrefix(text, " ") {
		panic(bad{api.ErrSyntax, at})
	}
	verb, name, spaced := strings.Cut(text[1:], " ")
	r.Act = 1 + slices.Index([]string{"emit", "skip", "begin"}, verb)
	if r.Act == 0 || spaced != (r.Act == api.Begin) {
		panic(bad{api.ErrSyntax, at + 1})
	}
	if spaced {
		r.To = o.known(name, at+len(" begin "))
	}
}
