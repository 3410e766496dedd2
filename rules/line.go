package rules

import (
	"heckle/api"
	"heckle/read"
	"heckle/set"
	"slices"
)

// rule reads the line of a rule.
func (p *parser) rule(line span) error {
	if len(p.spec.Rules) == api.MaxRules {
		return line.wrong(api.ErrLong)
	}
	var r api.Rule
	rest, err := p.starts(line, &r)
	if err == nil {
		rest, err = p.matches(rest, &r)
	}
	if err == nil {
		err = p.does(rest, &r)
	}
	if err == nil {
		p.spec.Rules = append(p.spec.Rules, r)
	}
	return err
}

// starts reads where a rule holds, and returns what stands behind it.
func (p *parser) starts(line span, r *api.Rule) (span, error) {
	rest, all := line.skip("<*>")
	if all {
		r.All = true
		return rest, nil
	}
	// What begins with << is no name, but what the rule matches.
	if _, ok := line.skip("<<"); ok {
		return line, nil
	}
	if rest, ok := line.skip("<"); ok {
		return p.names(rest, r)
	}
	return line, nil
}

// names reads the conditions of a rule, and the > behind them.
func (p *parser) names(rest span, r *api.Rule) (span, error) {
	for {
		var name span
		name, rest = rest.until(",>")
		cond, err := p.known(name)
		if err != nil {
			return rest, err
		}
		if slices.Contains(r.Conds, cond) {
			return rest, name.wrong(api.ErrName)
		}
		r.Conds = append(r.Conds, cond)
		if behind, ok := rest.skip(">"); ok {
			slices.Sort(r.Conds)
			return behind, nil
		}
		next, ok := rest.skip(",")
		if !ok {
			return rest, rest.wrong(api.ErrSyntax)
		}
		rest = next
	}
}

// known returns the condition of that name.
func (p *parser) known(name span) (int, error) {
	if !read.Name(name.text) {
		return 0, name.wrong(api.ErrSyntax)
	}
	cond := p.index(name.text)
	if cond < 0 {
		return 0, name.wrong(api.ErrName)
	}
	return cond, nil
}

// matches reads what a rule matches, and returns what stands behind it.
func (p *parser) matches(rest span, r *api.Rule) (span, error) {
	behind, eof := rest.skip("<<EOF>>")
	if eof {
		r.Eof = true
		return behind, nil
	}
	rest, r.Bol = rest.skip("^")
	part, rest := rest.cut(extent(rest.text))
	x, err := p.pattern(part)
	if err != nil {
		return rest, err
	}
	r.Rx = x
	return p.trail(rest, r)
}

// trail reads what must stand behind what a rule matches, if there is such a thing.
func (p *parser) trail(rest span, r *api.Rule) (span, error) {
	if behind, ok := rest.skip("$"); ok {
		r.Trail = api.Rx{Kind: api.Bytes, Set: set.Of('\n', '\n')}
		return behind, nil
	}
	rest, ok := rest.skip("/")
	if !ok {
		return rest, nil
	}
	part, rest := rest.cut(extent(rest.text))
	x, err := p.pattern(part)
	r.Trail = x
	return rest, err
}

// extent returns where the pattern that s begins with ends.
func extent(s string) int {
	inClass := false
	for i := 0; i < len(s); i++ {
		switch s[i] {
		case '\\':
			// The byte behind it is a part of the escape, whichever it is.
			i++
		case '[':
			inClass = true
		case ']':
			inClass = false
		case ' ', '/', '$':
			if !inClass {
				return i
			}
		}
	}
	return len(s)
}

// does reads the action of a rule, up to the end of the line.
func (p *parser) does(rest span, r *api.Rule) error {
	action, ok := rest.skip(" ")
	if !ok {
		return rest.wrong(api.ErrSyntax)
	}
	switch action.text {
	case "emit":
		r.Act = api.Emit
		return nil
	case "skip":
		r.Act = api.Skip
		return nil
	}
	name, ok := action.skip("begin ")
	if !ok {
		return action.wrong(api.ErrSyntax)
	}
	to, err := p.known(name)
	r.Act, r.To = api.Begin, to
	return err
}
