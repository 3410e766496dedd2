package dfa

import (
	"heckle/api"
	"heckle/crowd"
	"heckle/part"
)

// maker is a valid automaton with the states of it that are reached so far.
type maker struct {
	api.Auto
	follow  []crowd.Crowd  // what follows each place
	readers []crowd.Crowd  // for each class, the places whose Set contains its bytes
	numbers map[string]int // of states, by their texts
	states  []state
	dfa     api.Dfa
}

// newMaker makes the maker of a, a valid automaton.
func newMaker(a api.Auto) *maker {
	classes, n := part.Split(a.Sets)
	m := &maker{Auto: a, numbers: map[string]int{}, dfa: api.Dfa{Map: classes}}
	for _, list := range a.Follow {
		m.follow = append(m.follow, crowd.Of(list))
	}
	for _, b := range part.Least(classes, n) {
		m.readers = append(m.readers, m.reading(b))
	}
	return m
}

// reading returns the places whose Set contains the byte.
func (m *maker) reading(b int) crowd.Crowd {
	var c crowd.Crowd
	for p, set := range m.Sets {
		if set[b/64]>>(b%64)&1 == 1 {
			c.Add(p)
		}
	}
	return c
}

// addStarts adds the states in which contexts begin.
func (m *maker) addStarts() {
	for _, start := range m.Starts {
		m.dfa.Start = append(m.dfa.Start, m.number(state{crowd.Of(start), none}))
	}
}

// addRow adds the row of a state, and what it accepts.
func (m *maker) addRow(s state) {
	row := make([]int, len(m.readers))
	for class := range row {
		row[class] = none
		if next, read := m.successor(s, class); read {
			row[class] = m.number(next)
		}
	}
	m.dfa.Rows = append(m.dfa.Rows, row)
	m.dfa.Accept = append(m.dfa.Accept, s.rule)
}

// successor returns the state that follows s behind a byte of the class, and false if there is none.
func (m *maker) successor(s state, class int) (state, bool) {
	readers := s.Both(&m.readers[class])
	next := state{rule: none}
	for p := range readers.Places() {
		next.Join(&m.follow[p])
		if m.Ends[p] {
			next.accept(m.Owner[p])
		}
	}
	return next, readers != crowd.Crowd{}
}

// number returns that of a state, the next one if it is new.
func (m *maker) number(s state) int {
	text := s.text()
	number, known := m.numbers[text]
	if !known {
		number = len(m.states)
		m.numbers[text] = number
		m.states = append(m.states, s)
	}
	return number
}
