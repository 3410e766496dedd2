package spec

import (
	"heckle/api"
	"heckle/rx"
	"iter"
	"strings"
)

// Print returns the text of s, or ErrArg if s is not valid.
func Print(s api.Spec) (string, api.Errno) {
	if !Right(s) {
		return "", api.ErrArg
	}
	var text strings.Builder
	for line := range lines(s) {
		text.WriteString(line)
		text.WriteByte('\n')
	}
	return text.String(), api.OK
}

// lines are those of the text of s, a valid specification, without their ends.
func lines(s api.Spec) iter.Seq[string] {
	return func(yield func(string) bool) {
		// Every specification has the first condition, so no line tells it.
		for _, c := range s.Conds[1:] {
			if !yield(condLine(c)) {
				return
			}
		}
		if !s.Default && !yield("%nodefault") {
			return
		}
		if !yield("%%") {
			return
		}
		for _, r := range s.Rules {
			if !yield(ruleLine(r, s.Conds)) {
				return
			}
		}
	}
}

// condLine returns the line of a condition.
func condLine(c api.Cond) string {
	if c.Exclusive {
		return "%x " + c.Name
	}
	return "%s " + c.Name
}

// ruleLine returns the line of a rule.
func ruleLine(r api.Rule, conds []api.Cond) string {
	does := action{r.Act, conds[r.To].Name}
	return startsText(r, conds) + matchText(r) + " " + does.text()
}

// startsText returns what the line of r begins with: the conditions that it names.
func startsText(r api.Rule, conds []api.Cond) string {
	if r.All {
		return "<*>"
	}
	if len(r.Conds) == 0 {
		return ""
	}
	var names []string
	for _, c := range r.Conds {
		names = append(names, conds[c].Name)
	}
	return "<" + strings.Join(names, ",") + ">"
}

// matchText returns the text of what r matches.
func matchText(r api.Rule) string {
	if r.Eof {
		return "<<EOF>>"
	}
	text := patternText(r.Rx)
	if r.Bol {
		text = "^" + text
	}
	if !isNone(r.Trail) {
		text += "/" + patternText(r.Trail)
	}
	return text
}

// patternText returns the text of a valid pattern, for which there is no error.
func patternText(x api.Rx) string {
	text, _ := rx.Print(x)
	return text
}

// action is what a rule does: its Act, and the name of the condition To.
type action struct {
	act int
	to  string
}

// text returns the text of a valid action.
func (a action) text() string {
	switch a.act {
	case api.Emit:
		return "emit"
	case api.Skip:
		return "skip"
	}
	return "begin " + a.to
}
