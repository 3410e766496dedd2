package model_test

import (
	"regexp"
	"slices"
	"testing"

	"heckle/api"
	"heckle/rx"
)

// oracle reads the chapter word for word, with the library's expressions in the place of layer 5.
// It is made for valid specifications and texts of ASCII alone.
type oracle struct {
	s      api.Spec
	rx     []*regexp.Regexp
	trails []*regexp.Regexp // nil: the rule has no Trail
}

func newOracle(t *testing.T, s api.Spec) *oracle {
	t.Helper()
	o := &oracle{s: s}
	for _, r := range s.Rules {
		o.rx = append(o.rx, expression(t, r.Rx))
		o.trails = append(o.trails, expression(t, r.Trail))
	}
	return o
}

func expression(t *testing.T, x api.Rx) *regexp.Regexp {
	t.Helper()
	if x.Kind == 0 {
		return nil
	}
	text, e := rx.Print(x)
	if e != api.OK {
		t.Fatalf("the pattern %v has the error %d", x, e)
	}
	return regexp.MustCompile(`\A(?:` + text + `)\z`)
}

// divisions are the lengths of the first parts, from the longest one on, by which the rule matches the text.
func (o *oracle) divisions(rule int, text string) []int {
	var l []int
	for i := len(text); i > 0; i-- {
		if o.rx[rule].MatchString(text[:i]) && o.trails[rule].MatchString(text[i:]) {
			l = append(l, i)
		}
	}
	return l
}

func (o *oracle) head(rule int, text string) int {
	if o.trails[rule] != nil {
		return append(o.divisions(rule, text), 0)[0]
	}
	if o.rx[rule].MatchString(text) {
		return len(text)
	}
	return 0
}

func (o *oracle) active(rule, cond int) bool {
	r := o.s.Rules[rule]
	return r.All || slices.Contains(r.Conds, cond) || len(r.Conds) == 0 && !o.s.Conds[cond].Exclusive
}

// pick tries the numbers of bytes from the greatest one on, and for each the rules from the first one on.
func (o *oracle) pick(w string, at, cond int) (int, int) {
	for n := len(w) - at; n > 0; n-- {
		for rule, r := range o.s.Rules {
			if r.Eof || !o.active(rule, cond) || r.Bol && at > 0 && w[at-1] != 10 {
				continue
			}
			if o.head(rule, w[at:at+n]) > 0 {
				return rule, n
			}
		}
	}
	return -1, 0
}

// tokens returns those from a position on.
func (o *oracle) tokens(w string, at, cond int) api.Result {
	if at == len(w) {
		for rule, r := range o.s.Rules {
			if r.Eof && o.active(rule, cond) {
				return api.Result{Tokens: []api.Token{{Rule: rule, Start: at, End: at, Cond: cond}}, Jam: -1}
			}
		}
		return api.Result{Jam: -1}
	}
	rule, n := o.pick(w, at, cond)
	if rule < 0 && !o.s.Default {
		return api.Result{Jam: at}
	}
	token, behind := api.Token{Rule: rule, Start: at, End: at + 1, Cond: cond}, cond
	if rule >= 0 {
		token.End = at + o.head(rule, w[at:at+n])
		if o.s.Rules[rule].Act == api.Begin {
			behind = o.s.Rules[rule].To
		}
	}
	rest := o.tokens(w, token.End, behind)
	return api.Result{Tokens: append([]api.Token{token}, rest.Tokens...), Jam: rest.Jam}
}
