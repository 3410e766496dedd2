package auto

import (
	"heckle/api"
	"math/bits"
)

// crowd is a set of places: bit p%64 of the word p/64 is that of the place p.
type crowd [(api.MaxPlaces + 63) / 64]uint64

// crowdOf returns the places of a list.
func crowdOf(list []int) crowd {
	var c crowd
	for _, p := range list {
		c[p/64] |= 1 << (p % 64)
	}
	return c
}

// join adds the places of d.
func (c *crowd) join(d *crowd) {
	for i, word := range d {
		c[i] |= word
	}
}

// machine is a valid automaton, with what follows each place as a crowd: where long lists follow many
// places, it takes far less time to join crowds than to visit the lists again for each byte.
type machine struct {
	api.Auto
	follow []crowd
}

// newMachine makes the machine of a, a valid automaton.
func newMachine(a api.Auto) machine {
	m := machine{Auto: a}
	for list := range lists(a.Follow) {
		m.follow = append(m.follow, crowdOf(list))
	}
	return m
}

// read returns the places that follow those of here that read the byte, and the least rule that ends at
// one of those, or -1 if none does.
func (m machine) read(here crowd, b byte) (crowd, int) {
	var next crowd
	least := -1
	for i, word := range here {
		for ; word != 0; word &= word - 1 {
			p := 64*i + bits.TrailingZeros64(word)
			if m.Sets[p][b/64]>>(b%64)&1 == 0 {
				continue
			}
			next.join(&m.follow[p])
			if m.Ends[p] && (least < 0 || m.Owner[p] < least) {
				least = m.Owner[p]
			}
		}
	}
	return next, least
}
