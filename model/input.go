package model

import (
	"heckle/api"
	"heckle/spec"
	"iter"
)

// input is a text that is divided by a valid specification.
type input struct {
	spec api.Spec
	text string
}

// divided returns the tokens, and where the input jams.
func (in input) divided() api.Result {
	result := api.Result{Jam: -1}
	at, cond := 0, 0
	for at < len(in.text) {
		rule, n := in.pick(at, cond)
		if rule < 0 && !in.spec.Default {
			result.Jam = at
			return result
		}
		end := at + in.taken(rule, at, n)
		result.Tokens = append(result.Tokens, api.Token{Rule: rule, Start: at, End: end, Cond: cond})
		at, cond = end, in.condBehind(rule, cond)
	}
	if rule := in.eofRule(cond); rule >= 0 {
		result.Tokens = append(result.Tokens, api.Token{Rule: rule, Start: at, End: at, Cond: cond})
	}
	return result
}

// taken returns the length of the token at a position from which the rule matches n bytes.
func (in input) taken(rule, at, n int) int {
	if rule < 0 {
		return 1
	}
	return Head(in.spec.Rules[rule], in.text[at:at+n])
}

// condBehind returns the condition behind a token of the rule.
func (in input) condBehind(rule, cond int) int {
	if rule >= 0 && in.spec.Rules[rule].Act == api.Begin {
		return in.spec.Rules[rule].To
	}
	return cond
}

// eofRule returns the rule for the end of the input, or -1 if there is none.
func (in input) eofRule(cond int) int {
	for rule, r := range in.active(cond) {
		if r.Eof {
			return rule
		}
	}
	return -1
}

// pick is Pick for a position in the input.
func (in input) pick(at, cond int) (int, int) {
	best, most := -1, 0
	for rule, r := range in.pickable(at, cond) {
		// The first one of several counts, so no later one replaces it by as many bytes.
		if n := farthest(r, in.text, at) - at; n > most {
			best, most = rule, n
		}
	}
	return best, most
}

// pickable are the rules that can be picked at the position.
func (in input) pickable(at, cond int) iter.Seq2[int, api.Rule] {
	begins := at == 0 || in.text[at-1] == '\n'
	return func(yield func(int, api.Rule) bool) {
		for rule, r := range in.active(cond) {
			if !r.Eof && (begins || !r.Bol) && !yield(rule, r) {
				return
			}
		}
	}
}

// active are the rules that are Active in the condition.
func (in input) active(cond int) iter.Seq2[int, api.Rule] {
	return func(yield func(int, api.Rule) bool) {
		for rule, r := range in.spec.Rules {
			if spec.Active(in.spec, rule, cond) && !yield(rule, r) {
				return
			}
		}
	}
}
