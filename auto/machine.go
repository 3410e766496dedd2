package auto

import (
	"heckle/api"
	"heckle/crowd"
)

// machine is a valid automaton, with what follows each place as a crowd.
type machine struct {
	api.Auto
	follow []crowd.Crowd
}

// newMachine makes the machine of a, a valid automaton.
func newMachine(a api.Auto) machine {
	m := machine{Auto: a}
	for list := range lists(a.Follow) {
		m.follow = append(m.follow, crowd.Of(list))
	}
	return m
}

// read returns the places that follow those of here that read the byte, and the least rule that ends at
// one of those, or -1 if none does.
func (m machine) read(here crowd.Crowd, b byte) (crowd.Crowd, int) {
	var next crowd.Crowd
	least := -1
	for p := range here.Places() {
		if m.Sets[p][b/64]>>(b%64)&1 == 0 {
			continue
		}
		next.Join(&m.follow[p])
		if m.Ends[p] && (least < 0 || m.Owner[p] < least) {
			least = m.Owner[p]
		}
	}
	return next, least
}
