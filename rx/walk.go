package rx

import "heckle/api"

// Size and Same promise something of patterns that are nested without bound: they keep what is
// still to be visited in a list of their own, as recursion might exhaust the stack.

// mostSeen is how many patterns there can be within the bound of R6, as each takes 80 bytes.
// The visit of a pattern that is among its own kids, and so would have no end, ends there.
const mostSeen = (1<<31 - 1) / 80

// branch is one or more kids that Size has still to visit, and how often they count.
type branch struct {
	kids  []api.Rx
	times int
}

// couple is one or more kids of a pattern that Same has still to compare, and as many of another one.
type couple struct{ a, b []api.Rx }

// leave appends what remains of b behind its first kid.
func (b branch) leave(open []branch) []branch {
	if len(b.kids) == 1 {
		return open
	}
	return append(open, branch{b.kids[1:], b.times})
}

// leave appends what remains of c behind the first kid of each.
func (c couple) leave(open []couple) []couple {
	if len(c.a) == 1 {
		return open
	}
	return append(open, couple{c.a[1:], c.b[1:]})
}
