package dfa_test

import (
	"fmt"
	"slices"
	"strings"
	"testing"

	"heckle/api"
	"heckle/auto"
	"heckle/dfa"
	"heckle/rules"
)

// built is the automaton of these rules, parted by semicolons, with the conditions S and X (which is Exclusive).
func built(t *testing.T, lines string) api.Auto {
	t.Helper()
	s, e, at := rules.Parse("%s S\n%x X\n%%\n" + strings.ReplaceAll(lines, "; ", "\n") + "\n")
	if e != api.OK {
		t.Fatalf("the rules %q have the error %d at %d", lines, e, at)
	}
	a, e := auto.Build(s)
	if e != api.OK {
		t.Fatalf("the automaton of %q: error %d", lines, e)
	}
	return a
}

// made is Make for an automaton that has not too many states.
func made(t *testing.T, a api.Auto) api.Dfa {
	t.Helper()
	d, e := dfa.Make(a)
	if e != api.OK {
		t.Fatalf("L1: Make(%v): error %d", a, e)
	}
	return d
}

// written is what the tests compare: it makes no difference between empty lists.
func written(d api.Dfa) string { return fmt.Sprint(d.Map, d.Start, d.Rows, d.Accept) }

// set is that of these bytes.
func set(list ...int) api.Set {
	var s api.Set
	for _, b := range list {
		s[b/64] |= 1 << (b % 64)
	}
	return s
}

// chain is an automaton of n places that read a, each followed by the next one alone.
func chain(n int) api.Auto {
	a := api.Auto{Starts: [][]int{{0}}}
	for p := range n {
		a.Sets = append(a.Sets, set('a'))
		a.Owner = append(a.Owner, p%40)
		a.Follow = append(a.Follow, []int{p + 1})
		a.Ends = append(a.Ends, false)
	}
	a.Follow[n-1] = nil
	return a
}

// dice are numbers that are the same in each run.
type dice uint64

func (d *dice) roll(n int) int {
	*d ^= *d << 13
	*d ^= *d >> 7
	*d ^= *d << 17
	return int(uint64(*d) >> 11 % uint64(n))
}

// list makes an ascending list of places, of n that there are, of which each is one with the given chance in 1000.
func (d *dice) list(n, chance int) []int {
	var l []int
	for p := range n {
		if d.roll(1000) < chance {
			l = append(l, p)
		}
	}
	return l
}

// auto makes a valid automaton of n places, each of which some others follow, as many on the average.
func (d *dice) auto(n, others int) api.Auto {
	var a api.Auto
	sets := []api.Set{set('a'), set('b'), set('a', 'b'), set('a'), set('b', 'c'), set(0, 255), set('a', 63, 64, 191, 192)}
	for range n {
		a.Sets = append(a.Sets, sets[d.roll(len(sets))])
		a.Owner = append(a.Owner, d.roll(1+d.roll(40)))
		a.Follow = append(a.Follow, d.list(n, 1000*others/n))
		a.Ends = append(a.Ends, d.roll(3) == 0)
	}
	for range d.roll(17) {
		a.Starts = append(a.Starts, d.list(n, 1000*d.roll(4)/n))
	}
	return a
}

// autos are n valid automata; most of them have not too many states.
func autos(n int) []api.Auto {
	d := dice(88172645463325252)
	var l []api.Auto
	for range n {
		l = append(l, d.auto([]int{1, 2, 3, 4, 5, 6, 8, 12, 20, 64, 70, 130}[d.roll(12)], 1+d.roll(3)))
	}
	return l
}

// table makes a valid Dfa.
func (d *dice) table() api.Dfa {
	classes, states := 1+d.roll(5), 1+d.roll(6)
	var t api.Dfa
	for range 256 {
		t.Map = append(t.Map, d.roll(classes))
	}
	t.Map['a'] = classes - 1
	for range states {
		t.Rows = append(t.Rows, d.numbers(classes, states))
		t.Accept = append(t.Accept, max(-1, d.roll(60)-20))
	}
	t.Start = d.numbers(d.roll(17), states)
	return t
}

// numbers are n of -1 to states - 1.
func (d *dice) numbers(n, states int) []int {
	var l []int
	for range n {
		l = append(l, d.roll(states+1)-1)
	}
	return l
}

// text makes a text of bytes that places read, and of others that few do.
func (d *dice) text(n int) string {
	text := make([]byte, n)
	for i := range text {
		text[i] = "aaaaaabbbbbbbbccc\x00\xff?@\xbf\xc0z"[d.roll(24)]
	}
	return string(text)
}

// clonedAuto copies an automaton with all memory that it has.
func clonedAuto(a api.Auto) api.Auto {
	a.Sets = slices.Clone(a.Sets[:cap(a.Sets)])
	a.Owner = slices.Clone(a.Owner[:cap(a.Owner)])
	a.Ends = slices.Clone(a.Ends[:cap(a.Ends)])
	a.Follow, a.Starts = clonedLists(a.Follow), clonedLists(a.Starts)
	return a
}

// clonedDfa copies states with all memory that they have.
func clonedDfa(d api.Dfa) api.Dfa {
	d.Map = slices.Clone(d.Map[:cap(d.Map)])
	d.Accept = slices.Clone(d.Accept[:cap(d.Accept)])
	d.Start = slices.Clone(d.Start[:cap(d.Start)])
	d.Rows = clonedLists(d.Rows)
	return d
}

func clonedLists(l [][]int) [][]int {
	l = slices.Clone(l[:cap(l)])
	for i, list := range l {
		l[i] = slices.Clone(list[:cap(list)])
	}
	return l
}

// apart reports whether no two lists share memory, not even that behind them.
func apart(l [][]int) bool {
	for i, list := range l {
		whole := list[:cap(list)]
		kept := slices.Clone(whole)
		for j := range whole {
			whole[j] = -7
		}
		for j, other := range l {
			if i != j && slices.Contains(other[:cap(other)], -7) {
				return false
			}
		}
		copy(whole, kept)
	}
	return true
}
