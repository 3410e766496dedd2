package dfa

import (
	"heckle/crowd"
	"strconv"
)

// state is the current places, and the rule that is accepted, or none.
type state struct {
	crowd.Crowd
	rule int
}

// accept makes the rule the one that is accepted, if no lesser one is.
func (s *state) accept(rule int) {
	if s.rule == none || rule < s.rule {
		s.rule = rule
	}
}

// text writes the state: that of any other state is different.
func (s *state) text() string {
	text := strconv.AppendInt(nil, int64(s.rule), 10)
	for _, word := range s.Crowd {
		text = append(text, ' ')
		text = strconv.AppendUint(text, word, 16)
	}
	return string(text)
}
