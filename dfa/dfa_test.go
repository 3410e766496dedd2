package dfa_test

import (
	"fmt"
	"math"
	"reflect"
	"slices"
	"strings"
	"testing"

	"heckle/api"
	"heckle/auto"
	"heckle/dfa"
	"heckle/part"
)

// Starts, Rows and Accept of rules: the classes of a row are those of the least bytes first.
func TestL1Rules(t *testing.T) {
	for text, want := range map[string]string{
		"ab emit; a/b skip":       "[0 0 0 0 1 1] [[-1 2 -1] [-1 -1 -1] [-1 -1 3] [-1 -1 -1]] [-1 -1 -1 0]",
		"<*>ab emit; <*>a/b emit": "[0 0 0 0 0 0] [[-1 1 -1] [-1 -1 2] [-1 -1 -1]] [-1 -1 0]",
		"() emit":                 "[0 0 0 0 0 0] [[-1]] [-1]",
		"<<EOF>> emit":            "[0 0 0 0 0 0] [[-1]] [-1]",
		"<*>a emit":               "[0 0 0 0 0 0] [[-1 1] [-1 -1]] [-1 0]",
		"<X>a emit":               "[0 0 0 0 1 1] [[-1 -1] [-1 2] [-1 -1]] [-1 -1 0]",
		"^a emit":                 "[0 1 0 1 0 0] [[-1 -1] [-1 2] [-1 -1]] [-1 -1 0]",
		"<*>^a emit; <*>b emit":   "[0 1 0 1 0 1] [[-1 -1 2] [-1 3 2] [-1 -1 -1] [-1 -1 -1]] [-1 -1 1 0]",
		// A state is that of its places and of its rule: a Start accepts none, even where a rule goes on with its places.
		"<*>a* emit":                   "[0 0 0 0 0 0] [[-1 1] [-1 1]] [-1 0]",
		"<*>(aa)* emit":                "[0 0 0 0 0 0] [[-1 1] [-1 2] [-1 1]] [-1 -1 0]",
		"<*>(a|b)*a emit":              "[0 0 0 0 0 0] [[-1 1 0] [-1 1 0]] [-1 0]",
		"<*>a emit; <*>b skip":         "[0 0 0 0 0 0] [[-1 1 2] [-1 -1 -1] [-1 -1 -1]] [-1 0 1]",
		"<*>a emit; <*>[ab] skip":      "[0 0 0 0 0 0] [[-1 1 2] [-1 -1 -1] [-1 -1 -1]] [-1 0 1]",
		"<*>ab emit; <*>cb emit":       "[0 0 0 0 0 0] [[-1 1 -1 2] [-1 -1 3 -1] [-1 -1 4 -1] [-1 -1 -1 -1] [-1 -1 -1 -1]] [-1 -1 -1 0 1]",
		"<*>(ab|cb) emit":              "[0 0 0 0 0 0] [[-1 1 -1 2] [-1 -1 3 -1] [-1 -1 3 -1] [-1 -1 -1 -1]] [-1 -1 -1 0]",
		"<*>a/b? emit":                 "[0 0 0 0 0 0] [[-1 1 -1] [-1 -1 2] [-1 -1 -1]] [-1 0 0]",
		"<*>if emit; <*>[a-z]+ emit":   "[0 0 0 0 0 0] [[-1 1 1 2] [-1 1 1 1] [-1 1 3 1] [-1 1 1 1]] [-1 1 1 0]",
		"<*>[^a] emit":                 "[0 0 0 0 0 0] [[1 -1] [-1 -1]] [-1 0]",
		"<*>[\\x00-\\xff] emit":        "[0 0 0 0 0 0] [[1] [-1]] [-1 0]",
		"<*>[\\x00-\\xff]a* emit":      "[0 0 0 0 0 0] [[1 1] [-1 1]] [-1 0]",
		"<INITIAL,X>b emit; <S>a emit": "[0 0 1 1 0 0] [[-1 -1 2] [-1 3 -1] [-1 -1 -1] [-1 -1 -1]] [-1 -1 0 1]",
	} {
		d := made(t, built(t, text))
		if got := fmt.Sprint(d.Start, d.Rows, d.Accept); got != want {
			t.Errorf("L1: %q: %s, want %s", text, got, want)
		}
	}
}

// places is an automaton of places that read single bytes, those of the text; those of ends end. Owners descend from 9.
func places(bytes, ends string, follow, starts [][]int) api.Auto {
	a := api.Auto{Follow: follow, Starts: starts}
	for p, b := range []byte(bytes) {
		a.Sets = append(a.Sets, set(int(b)))
		a.Owner = append(a.Owner, 9-p)
		a.Ends = append(a.Ends, ends[p] == 'x')
	}
	return a
}

// Automata that no rules have.
func TestL1Automata(t *testing.T) {
	for name, c := range map[string]struct {
		a    api.Auto
		want string
	}{
		"zero":                      {api.Auto{}, "[] [] []"},
		"an empty Start":            {api.Auto{Starts: [][]int{nil}}, "[0] [[-1]] [-1]"},
		"no Starts":                 {places("a", "x", [][]int{{0}}, nil), "[] [] []"},
		"Starts in their order":     {places("ab", "..", [][]int{{}, {}}, [][]int{{1}, {0}, {}, {0, 1}, {1}, {0}}), "[0 1 2 3 0 1] [[-1 -1 2] [-1 2 -1] [-1 -1 -1] [-1 2 2]] [-1 -1 -1 -1]"},
		"nothing follows":           {places("a", ".", [][]int{{}}, [][]int{{0}}), "[0] [[-1 1] [-1 -1]] [-1 -1]"},
		"nothing follows, it ends":  {places("a", "x", [][]int{{}}, [][]int{{0}}), "[0] [[-1 1] [-1 -1]] [-1 9]"},
		"both":                      {places("ab", "x.", [][]int{{}, {}}, [][]int{{0, 1}}), "[0] [[-1 1 2] [-1 -1 -1] [-1 -1 -1]] [-1 9 -1]"},
		"nothing, as a Start":       {places("a", ".", [][]int{{}}, [][]int{{}, {0}}), "[0 1] [[-1 -1] [-1 0]] [-1 -1]"},
		"it ends, unlike a Start":   {places("a", "x", [][]int{{}}, [][]int{{}, {0}}), "[0 1] [[-1 -1] [-1 2] [-1 -1]] [-1 -1 9]"},
		"same places, other rules":  {places("abc", "xx.", [][]int{{2}, {2}, {}}, [][]int{{0, 1}}), "[0] [[-1 1 2 -1] [-1 -1 -1 3] [-1 -1 -1 3] [-1 -1 -1 -1]] [-1 9 8 -1]"},
		"same rule, other places":   {places("abac", "x..x", [][]int{{1}, {0, 3}, {}, {0}}, [][]int{{0, 3}}), "[0] [[-1 1 -1 2] [-1 -1 0 -1] [-1 1 -1 -1]] [-1 9 6]"},
		"the least Owner that ends": {places("aaaa", ".xx.", [][]int{{}, {}, {}, {}}, [][]int{{0, 1, 2, 3}, {0, 1}, {0, 3}}), "[0 1 2] [[-1 3] [-1 4] [-1 5] [-1 -1] [-1 -1] [-1 -1]] [-1 -1 -1 7 8 -1]"},
		"of those that read":        {places("aab", "xxx", [][]int{{}, {}, {}}, [][]int{{0, 1, 2}}), "[0] [[-1 1 2] [-1 -1 -1] [-1 -1 -1]] [-1 8 7]"},
		"of the current ones":       {places("aab", "xxx", [][]int{{2}, {}, {1}}, [][]int{{0}}), "[0] [[-1 1 -1] [-1 -1 2] [-1 3 -1] [-1 -1 -1]] [-1 9 7 8]"},
		"classes in order":          {places("cab", "xxx", [][]int{{}, {}, {}}, [][]int{{0, 1, 2}}), "[0] [[-1 1 2 3] [-1 -1 -1 -1] [-1 -1 -1 -1] [-1 -1 -1 -1]] [-1 8 7 9]"},
		"states in order":           {places("baab", "xxxx", [][]int{{2}, {3}, {}, {}}, [][]int{{0, 1}}), "[0] [[-1 1 2] [-1 -1 3] [-1 4 -1] [-1 -1 -1] [-1 -1 -1]] [-1 8 9 6 7]"},
		"lists that join":           {places("aab", "..x", [][]int{{0, 2}, {1, 2}, {}}, [][]int{{0, 1}, {0}}), "[0 1] [[-1 2 -1] [-1 3 -1] [-1 2 4] [-1 3 4] [-1 -1 -1]] [-1 -1 -1 -1 7]"},
		"byte 0 is of a class":      {places("\x00\xff", "xx", [][]int{{}, {}}, [][]int{{0, 1}}), "[0] [[1 -1 2] [-1 -1 -1] [-1 -1 -1]] [-1 9 8]"},
	} {
		d := made(t, c.a)
		if got := fmt.Sprint(d.Start, d.Rows, d.Accept); got != c.want {
			t.Errorf("L1: %s: %s, want %s", name, got, c.want)
		}
	}
}

// Any two lists, and any two rules with the same list, are two states, however alike they may be.
func TestL1Apart(t *testing.T) {
	a := chain(600)
	for p := range 600 {
		a.Follow[p], a.Ends[p] = nil, true
	}
	lists := [][]int{
		nil, {0}, {1}, {10}, {1, 10}, {0, 1}, {0, 11}, {4}, {0, 4}, {64}, {0, 64}, {0, 4, 64}, {0, 64, 68}, {1, 64}, {128}, {512},
		{599}, {63}, {127}, {4, 68}, {68}, {0, 68, 512}, {0, 64, 516}, {1, 2, 3}, {3, 12}, {1, 23}, {123},
	}
	for i, list := range lists {
		for j, other := range lists {
			a.Starts = [][]int{list, other}
			if d := made(t, a); (i == j) != (d.Start[0] == d.Start[1]) {
				t.Errorf("L1: %d, %d: %v and %v: %v", i, j, list, other, d.Start)
			}
		}
	}
	// Behind a, a list and a rule; behind b, others.
	for _, c := range [][2][]int{{{4}, {}}, {{0}, {}}, {{68}, {}}, {{10}, {0}}, {{}, {}}, {{5}, {5}}} {
		for one := range 40 {
			for _, other := range []int{one, one / 10, one % 10, (one + 1) % 40, 0} {
				a := chain(70)
				a.Sets[1], a.Follow[0], a.Follow[1], a.Starts = set('b'), c[0], c[1], [][]int{{0, 1}}
				a.Owner[0], a.Owner[1], a.Ends[0], a.Ends[1] = one, other, true, true
				d := made(t, a)
				if same := one == other && slices.Equal(c[0], c[1]); same != (d.Rows[0][1] == d.Rows[0][2]) {
					t.Errorf("L1: %v and %d, %v and %d: the row is %v", c[0], one, c[1], other, d.Rows[0])
				}
			}
		}
	}
}

// All Sets part the bytes, even those of places that are never current.
func TestL1Map(t *testing.T) {
	a := places("a", "x", [][]int{{}}, [][]int{{0}})
	all := api.Set{math.MaxUint64, math.MaxUint64, math.MaxUint64, math.MaxUint64}
	for i, sets := range [][]api.Set{
		nil, {set('b')}, {set(0, 63), set(64, 127, 128)}, {all}, {set(191, 192, 255), all}, {set('a', 'b'), set('b')},
	} {
		x := a
		for _, s := range sets {
			x.Sets, x.Owner, x.Follow, x.Ends = append(x.Sets, s), append(x.Owner, 0), append(x.Follow, nil), append(x.Ends, true)
		}
		d := made(t, x)
		want, n := part.Split(x.Sets)
		if !slices.Equal(d.Map, want) || len(d.Rows) != 2 || len(d.Rows[0]) != n {
			t.Errorf("L1: %d: %s", i, written(d))
		}
		for class, next := range d.Rows[0] {
			if (next == 1) != (class == d.Map['a']) {
				t.Errorf("L1: %d: the row of the Start is %v", i, d.Rows[0])
			}
		}
	}
	if d := made(t, api.Auto{}); !slices.Equal(d.Map, make([]int, 256)) {
		t.Errorf("L1: no Sets: %v", d.Map)
	}
}

// Each byte may be a class of its own.
func TestL1AllClasses(t *testing.T) {
	var a api.Auto
	var every []int
	for p := range 256 {
		every = append(every, p)
		a.Sets = append(a.Sets, set(p))
		a.Owner = append(a.Owner, p%40)
		a.Follow = append(a.Follow, []int{(p + 1) % 256})
		a.Ends = append(a.Ends, p%3 == 0)
	}
	a.Starts = [][]int{every}
	d := made(t, a)
	want, _ := oracleMake(a)
	if len(d.Rows) != 257 || !slices.Equal(d.Map, every) || written(d) != written(want) {
		t.Errorf("L1: %s", written(d))
	}
}

func TestL1AgainstTheOracle(t *testing.T) {
	counts := map[string]int{}
	for i, a := range autos(2500) {
		want, n := oracleMake(a)
		d, e := dfa.Make(a)
		switch {
		case n > 500:
			counts["full"]++
			if e != api.ErrFull || !reflect.DeepEqual(d, api.Dfa{}) {
				t.Fatalf("L1: automaton %d: error %d, want %d; %s", i, e, api.ErrFull, written(d))
			}
			continue
		case n > 100:
			counts["great"]++
		case n > 10:
			counts["of more than 10 states"]++
		case n > 2:
			counts["small"]++
		}
		if e != api.OK || written(d) != written(want) {
			t.Fatalf("L1: Make(%v): error %d, %s, want %s", a, e, written(d), written(want))
		}
	}
	for _, sort := range []string{"full", "great", "of more than 10 states", "small"} {
		if counts[sort] < 40 {
			t.Errorf("L1: only %d automata are %s", counts[sort], sort)
		}
	}
}

// wrongAutos are not valid, each in one point.
func wrongAutos() map[string]api.Auto {
	l := map[string]api.Auto{}
	for name, change := range map[string]func(a *api.Auto){
		"an Owner less":       func(a *api.Auto) { a.Owner = a.Owner[1:] },
		"an End more":         func(a *api.Auto) { a.Ends = append(a.Ends, true) },
		"no Follow":           func(a *api.Auto) { a.Follow = nil },
		"a Set more":          func(a *api.Auto) { a.Sets = append(a.Sets, set('b')) },
		"no bytes":            func(a *api.Auto) { a.Sets[3] = api.Set{} },
		"Owner 40":            func(a *api.Auto) { a.Owner[0] = 40 },
		"Owner -1":            func(a *api.Auto) { a.Owner[4] = -1 },
		"Follow turned":       func(a *api.Auto) { a.Follow[2] = []int{1, 0} },
		"Follow twice":        func(a *api.Auto) { a.Follow[2] = []int{1, 1} },
		"Follow beyond":       func(a *api.Auto) { a.Follow[2] = []int{1, 5} },
		"Follow far beyond":   func(a *api.Auto) { a.Follow[2] = []int{math.MaxInt} },
		"Follow -1":           func(a *api.Auto) { a.Follow[2] = []int{-1, 1} },
		"Start turned":        func(a *api.Auto) { a.Starts[0] = []int{1, 0} },
		"Start beyond":        func(a *api.Auto) { a.Starts[0] = []int{5} },
		"Start -1":            func(a *api.Auto) { a.Starts[0] = []int{math.MinInt} },
		"17 Starts":           func(a *api.Auto) { a.Starts = make([][]int, 17) },
		"601 places":          func(a *api.Auto) { *a = chain(601) },
		"and too many states": func(a *api.Auto) { *a = chain(600); a.Owner[599] = 40 },
	} {
		a := chain(5)
		change(&a)
		l[name] = a
	}
	return l
}

func TestL1WrongAutomata(t *testing.T) {
	for name, a := range wrongAutos() {
		if d, e := dfa.Make(a); e != api.ErrArg || !reflect.DeepEqual(d, api.Dfa{}) {
			t.Errorf("L1: %s: error %d, %s", name, e, written(d))
		}
	}
}

// branched lets the last place of a chain be followed by a further one for each of n letters, of different rules.
func branched(a api.Auto, n int) api.Auto {
	last := len(a.Sets) - 1
	for i := range n {
		a.Follow[last] = append(a.Follow[last], len(a.Sets))
		a.Sets = append(a.Sets, set('b'+i))
		a.Owner = append(a.Owner, i)
		a.Follow = append(a.Follow, nil)
		a.Ends = append(a.Ends, true)
	}
	return a
}

func TestL1Limit(t *testing.T) {
	starts := func(a api.Auto, more ...[]int) api.Auto {
		a.Starts = append(a.Starts, more...)
		return a
	}
	// From each of these a text leads to states that there are anyway.
	var short [][]int
	for p := range 15 {
		short = append(short, []int{p, 483})
	}
	for name, c := range map[string]struct {
		a      api.Auto
		states int
	}{
		"a chain of 498":                     {chain(498), 499},
		"a chain of 499":                     {chain(499), 500},
		"a chain of 500":                     {chain(500), 501},
		"a chain of 600":                     {chain(600), 601},
		"the same, from another Start":       {starts(chain(499), []int{2}, []int{498}, nil), 500},
		"with a Start more":                  {starts(chain(499), []int{2, 3}), 501},
		"with a Start that leads to no more": {starts(chain(498), []int{0, 498 - 1}), 500},
		"not from its first place":           {starts(api.Auto{Sets: chain(600).Sets, Owner: chain(600).Owner, Follow: chain(600).Follow, Ends: chain(600).Ends}, []int{101}), 500},
		"20 at the end":                      {branched(chain(479), 20), 500},
		"20 at the end, and one more":        {branched(chain(480), 20), 501},
		"16 Starts":                          {starts(chain(484), short...), 500},
		"16 Starts, and one state more":      {starts(chain(485), short...), 501},
	} {
		d, e := dfa.Make(c.a)
		want, n := oracleMake(c.a)
		if min(n, 501) != min(c.states, 501) {
			t.Fatalf("L1: %s: the oracle has %d states", name, n)
		}
		if c.states > 500 {
			if e != api.ErrFull || !reflect.DeepEqual(d, api.Dfa{}) {
				t.Errorf("L1: %s: error %d, %d states", name, e, len(d.Rows))
			}
			continue
		}
		if e != api.OK || written(d) != written(want) {
			t.Errorf("L1: %s: error %d, %d states", name, e, len(d.Rows))
		}
	}
}

// The number of states can grow as the powers of two, but never far beyond the limit.
func TestL1Powers(t *testing.T) {
	for n := range 20 {
		a := built(t, fmt.Sprintf("<*>[ab]*a[ab]{1,1}%s emit", strings.Repeat("[ab]", n)))
		d, e := dfa.Make(a)
		if full := n > 6; full != (e == api.ErrFull) || full != (len(d.Rows) == 0) {
			t.Errorf("L1: %d: error %d, %d states", n+1, e, len(d.Rows))
		} else if want := 1 << (n + 2); !full && len(d.Rows) != want {
			t.Errorf("L1: %d: %d states, want %d", n+1, len(d.Rows), want)
		}
	}
}

// valid are three states and 256 classes, of which the last two alone occur.
func valid() api.Dfa {
	row := slices.Repeat([]int{-1}, 256)
	row[254], row[255] = 2, 0
	classes := slices.Repeat([]int{254}, 256)
	classes[0] = 255
	return api.Dfa{Map: classes, Rows: [][]int{row, slices.Clone(row), slices.Clone(row)}, Accept: []int{-1, 0, 39}, Start: []int{2, -1, 0}}
}

// states are n of one class, with no Starts.
func states(n int) api.Dfa {
	d := api.Dfa{Map: make([]int, 256)}
	for i := range n {
		d.Rows = append(d.Rows, []int{n - 1 - i})
		d.Accept = append(d.Accept, i%41-1)
	}
	return d
}

func TestL2OnePart(t *testing.T) {
	if !dfa.Right(valid()) {
		t.Fatal("L2: not valid")
	}
	for name, c := range map[string]struct {
		change func(d *api.Dfa)
		want   bool
	}{
		"zero":                     {func(d *api.Dfa) { *d = api.Dfa{} }, false},
		"no Map":                   {func(d *api.Dfa) { d.Map = nil }, false},
		"255 bytes":                {func(d *api.Dfa) { d.Map = d.Map[:255] }, false},
		"257 bytes":                {func(d *api.Dfa) { d.Map = append(d.Map, 0) }, false},
		"class 256":                {func(d *api.Dfa) { d.Map[7] = 256 }, false},
		"class 256, and its width": {func(d *api.Dfa) { *d = states(1); d.Map[7], d.Rows[0] = 256, make([]int, 257) }, false},
		"class -1":                 {func(d *api.Dfa) { d.Map[255] = -1 }, false},
		"only class -1":            {func(d *api.Dfa) { d.Map, d.Rows = slices.Repeat([]int{-1}, 256), [][]int{{}, {}, {}} }, false},
		"a very great class":       {func(d *api.Dfa) { d.Map[0] = math.MaxInt }, false},
		"a very small class":       {func(d *api.Dfa) { d.Map[0] = math.MinInt }, false},
		"a lesser greatest class":  {func(d *api.Dfa) { d.Map[0] = 3 }, false},
		"class 0":                  {func(d *api.Dfa) { d.Map[1] = 0 }, true},
		"no Rows":                  {func(d *api.Dfa) { d.Rows = nil }, false},
		"a row less":               {func(d *api.Dfa) { d.Rows = d.Rows[:2] }, false},
		"a row more":               {func(d *api.Dfa) { d.Rows = append(d.Rows, d.Rows[0]) }, false},
		"no numbers":               {func(d *api.Dfa) { d.Rows[1] = nil }, false},
		"a number less":            {func(d *api.Dfa) { d.Rows[2] = d.Rows[2][:255] }, false},
		"a number more":            {func(d *api.Dfa) { d.Rows[0] = append(d.Rows[0], 0) }, false},
		"number 3":                 {func(d *api.Dfa) { d.Rows[2][255] = 3 }, false},
		"number 3, never used":     {func(d *api.Dfa) { d.Rows[2][1] = 3 }, false},
		"number 2":                 {func(d *api.Dfa) { d.Rows[2][0] = 2 }, true},
		"number -2":                {func(d *api.Dfa) { d.Rows[0][0] = -2 }, false},
		"a very great number":      {func(d *api.Dfa) { d.Rows[1][9] = math.MaxInt }, false},
		"no Accepts":               {func(d *api.Dfa) { d.Accept = nil }, false},
		"an Accept less":           {func(d *api.Dfa) { d.Accept = d.Accept[:2] }, false},
		"an Accept more":           {func(d *api.Dfa) { d.Accept = append(d.Accept, -1) }, false},
		"rule 40":                  {func(d *api.Dfa) { d.Accept[0] = 40 }, false},
		"rule -2":                  {func(d *api.Dfa) { d.Accept[2] = -2 }, false},
		"a very small rule":        {func(d *api.Dfa) { d.Accept[1] = math.MinInt }, false},
		"no Starts":                {func(d *api.Dfa) { d.Start = nil }, true},
		"Start 3":                  {func(d *api.Dfa) { d.Start[0] = 3 }, false},
		"Start -2":                 {func(d *api.Dfa) { d.Start[2] = -2 }, false},
		"16 Starts":                {func(d *api.Dfa) { d.Start = slices.Repeat([]int{2}, 16) }, true},
		"17 Starts":                {func(d *api.Dfa) { d.Start = slices.Repeat([]int{2}, 17) }, false},
		"17 Starts, none of them":  {func(d *api.Dfa) { d.Start = slices.Repeat([]int{-1}, 17) }, false},
		"one state":                {func(d *api.Dfa) { *d = states(1) }, true},
		"499 states":               {func(d *api.Dfa) { *d = states(499) }, true},
		"500 states":               {func(d *api.Dfa) { *d = states(500) }, true},
		"501 states":               {func(d *api.Dfa) { *d = states(501) }, false},
		"many states":              {func(d *api.Dfa) { *d = states(100000) }, false},
		"no states":                {func(d *api.Dfa) { *d = states(0) }, true},
		"no states, Start -1":      {func(d *api.Dfa) { *d = states(0); d.Start = []int{-1, -1} }, true},
		"no states, Start 0":       {func(d *api.Dfa) { *d = states(0); d.Start = []int{0} }, false},
		"no states, an Accept":     {func(d *api.Dfa) { *d = states(0); d.Accept = []int{-1} }, false},
		"no states, 256 classes":   {func(d *api.Dfa) { *d = states(0); d.Map[3] = 255 }, true},
		"no states, class 256":     {func(d *api.Dfa) { *d = states(0); d.Map[3] = 256 }, false},
	} {
		d := valid()
		c.change(&d)
		if got := dfa.Right(d); got != c.want || oracleRight(d) != c.want {
			t.Errorf("L2: %s: %t", name, got)
		}
	}
}

func TestL2AgainstTheOracle(t *testing.T) {
	dice := dice(2463534242)
	right := 0
	for i := range 6000 {
		d := dice.table()
		n := dice.roll(len(d.Rows))
		odd := []int{-2, -1, 0, len(d.Rows) - 1, len(d.Rows), 39, 40}[dice.roll(7)]
		switch dice.roll(10) {
		case 0:
			d.Map[dice.roll(256)] = odd
		case 1:
			d.Rows[n][dice.roll(len(d.Rows[n]))] = odd
		case 2:
			d.Rows[n] = append(d.Rows[n], odd)
		case 3:
			d.Accept[n] = odd
		case 4:
			d.Start = append(d.Start, odd)
		case 5:
			d.Rows = append(d.Rows, d.Rows[n])
		}
		want := oracleRight(d)
		if got := dfa.Right(d); got != want {
			t.Fatalf("L2: %d: %t, want %t: %s", i, got, want, written(d))
		}
		if want {
			right++
		}
	}
	if right < 2500 || right > 4500 {
		t.Errorf("L2: %d of 6000 are valid", right)
	}
}

// small has the classes of a, b and all other bytes, and one state that leads nowhere, 3.
func small() api.Dfa {
	classes := slices.Repeat([]int{2}, 256)
	classes['a'], classes['b'] = 1, 0
	return api.Dfa{
		Map:    classes,
		Rows:   [][]int{{-1, 1, 2}, {2, 1, -1}, {0, 3, 2}, {-1, -1, -1}},
		Accept: []int{-1, 7, -1, 0},
		Start:  []int{0},
	}
}

func TestL3Run(t *testing.T) {
	for _, c := range []struct {
		state   int
		w       string
		rule, n int
	}{
		{0, "", -1, 0},
		{0, "a", 7, 1},
		{0, "b", -1, 0},
		{0, "c", -1, 0},
		{0, "aa", 7, 2},
		{0, "ab", 7, 1},
		{0, "aba", 0, 3},
		{0, "abaa", 0, 3},
		{0, "abc", 7, 1},
		{0, "abccccca", 0, 8},
		{0, "abba", 7, 4},
		{0, "abbaa", 7, 5},
		{0, "abbb", 7, 1},
		// Where there is no state, the rest counts no more.
		{0, "ba", -1, 0},
		{0, "baaa", -1, 0},
		{0, "aca", 7, 1},
		{0, "ca", 0, 2},
		{0, "caa", 0, 2},
		{0, "cab", 0, 2},
		{0, "\x00\xffz", -1, 0},
		{0, "\x00\xffa", 0, 3},
		// A state that accepts a rule does so behind no bytes too.
		{1, "", 7, 0},
		{1, "c", 7, 0},
		{1, "b", 7, 0},
		{1, "ba", 0, 2},
		{1, "a", 7, 1},
		{3, "", 0, 0},
		{3, "aaa", 0, 0},
		{2, "", -1, 0},
		{2, "ba", 7, 2},
		{2, "bb", -1, 0},
		{-1, "", -1, 0},
		{-1, "a", -1, 0},
		{-1, "abba", -1, 0},
	} {
		if rule, n := dfa.Run(small(), c.state, c.w); rule != c.rule || n != c.n {
			t.Errorf("L3: Run from %d on %q: %d, %d, want %d, %d", c.state, c.w, rule, n, c.rule, c.n)
		}
	}
}

func TestL3AgainstTheOracle(t *testing.T) {
	dice := dice(362436069)
	ends := map[int]int{}
	for i := range 20000 {
		d, w := dice.table(), dice.text(dice.roll(12))
		state := dice.roll(len(d.Rows)+1) - 1
		wantRule, wantN := oracleRun(d, state, w)
		if rule, n := dfa.Run(d, state, w); rule != wantRule || n != wantN {
			t.Fatalf("L3: %d: Run of %s from %d on %q: %d, %d, want %d, %d", i, written(d), state, w, rule, n, wantRule, wantN)
		}
		ends[wantN]++
	}
	for n := range 8 {
		if ends[n] < 100 {
			t.Errorf("L3: only %d matches of %d bytes", ends[n], n)
		}
	}
}

// Each byte has a class of its own, and each of 256 states reads one byte.
func TestL3Bytes(t *testing.T) {
	var d api.Dfa
	for b := range 256 {
		row := slices.Repeat([]int{-1}, 256)
		row[255-b] = (b + 1) % 256
		d.Map = append(d.Map, 255-b)
		d.Rows = append(d.Rows, row)
		d.Accept = append(d.Accept, b%40)
	}
	for b := range 256 {
		next := (b + 1) % 256
		w := string([]byte{byte(b), byte(next), byte(b)})
		if rule, n := dfa.Run(d, b, w); rule != (b+2)%256%40 || n != 2 {
			t.Errorf("L3: from %d: %d, %d", b, rule, n)
		}
		if rule, n := dfa.Run(d, next, w); rule != next%40 || n != 0 {
			t.Errorf("L3: from %d, another byte: %d, %d", next, rule, n)
		}
	}
}

// There is no limit to w: it need not be an input.
func TestL3LongTexts(t *testing.T) {
	d := made(t, built(t, "a emit; a*b emit; (aa)+ emit"))
	for _, n := range []int{10000, 10001, 3000000} {
		w := strings.Repeat("a", n)
		if rule, got := dfa.Run(d, d.Start[0], w); rule != 2 || got != n/2*2 {
			t.Errorf("L3: %d bytes: %d, %d", n, rule, got)
		}
		if rule, got := dfa.Run(d, d.Start[0], w+"b"+w); rule != 1 || got != n+1 {
			t.Errorf("L3: %d bytes and b: %d, %d", n, rule, got)
		}
	}
}

// For other arguments it is promised only that Run terminates and does not panic.
func TestL3WrongArguments(t *testing.T) {
	odd := []int{math.MinInt, -600, -2, -1, 3, 4, 5, 255, 256, 499, 500, 1 << 40, math.MaxInt}
	for _, n := range odd {
		dfa.Run(small(), n, "aab")
		dfa.Run(api.Dfa{}, n, "aab")
		dfa.Run(states(501), n, "aab")
		for part := range 4 {
			d := small()
			switch part {
			case 0:
				d.Map['a'], d.Map['b'] = n, n
			case 1:
				d.Rows[1] = []int{n, n, n}
			case 2:
				d.Accept = slices.Repeat([]int{n}, 4)
			case 3:
				d.Start[0] = n
			}
			for state := range 5 {
				dfa.Run(d, state, "")
				dfa.Run(d, state, "abaabbac")
			}
		}
	}
	for _, change := range []func(d *api.Dfa){
		func(d *api.Dfa) { d.Map = nil },
		func(d *api.Dfa) { d.Map = d.Map[:'a'+1] },
		func(d *api.Dfa) { d.Rows = nil },
		func(d *api.Dfa) { d.Rows = d.Rows[:1] },
		func(d *api.Dfa) { d.Rows = make([][]int, 4) },
		func(d *api.Dfa) { d.Rows[2] = d.Rows[2][:1] },
		func(d *api.Dfa) { d.Accept = nil },
		func(d *api.Dfa) { d.Accept = d.Accept[:1] },
		func(d *api.Dfa) { d.Accept, d.Rows = slices.Repeat(d.Accept, 3), slices.Repeat([][]int{{5, 6, 7}}, 4) },
	} {
		d := small()
		change(&d)
		for state := -1; state < 8; state++ {
			dfa.Run(d, state, "")
			dfa.Run(d, state, "abcabba\xff")
		}
	}
}

// holdsRun compares the states of an automaton with it, and returns how many rules there were.
func holdsRun(t *testing.T, a api.Auto, w string) int {
	t.Helper()
	d := made(t, a)
	if !dfa.Right(d) {
		t.Fatalf("L4: %v: %s is not valid", a, written(d))
	}
	found := 0
	for i, start := range a.Starts {
		for at := range len(w) + 1 {
			wantRule, wantN := auto.Run(a, start, w[at:])
			if rule, n := dfa.Run(d, d.Start[i], w[at:]); rule != wantRule || n != wantN {
				t.Fatalf("L4: %v, from %v on %q: %d, %d, want %d, %d", a, start, w[at:], rule, n, wantRule, wantN)
			}
			if wantRule >= 0 {
				found++
			}
		}
	}
	return found
}

func TestL4Samples(t *testing.T) {
	dice := dice(521288629)
	found := 0
	for _, a := range autos(600) {
		if _, e := dfa.Make(a); e == api.OK {
			found += holdsRun(t, a, dice.text(20))
		}
	}
	if found < 8000 {
		t.Errorf("L4: only %d rules were found", found)
	}
}

// Rules as they are meant to be used.
func TestL4Rules(t *testing.T) {
	a := built(t, strings.Join([]string{
		"if|else emit", "[a-z]+ emit", "[0-9]+ emit", `[0-9]+/\.\. emit`, `[0-9]+\.[0-9]* emit`, `^#[^\n]*$ skip`,
		`\x22 begin X`, `[\x20\n]+ skip`, `<X>[^\x22\n]+ emit`, `<X>\x22 begin INITIAL`, "<*><<EOF>> emit", "<*>[^a] skip",
	}, "; "))
	for _, w := range []string{
		"if iff else elsewhere i\n", "1..2 1.2 1. 12.. 3", "#a\n #b\n#c", `"ab"c "d` + "\n", "\x00\xff\x80~", "",
	} {
		if found := holdsRun(t, a, w); w != "" && found < len(w) {
			t.Errorf("L4: %q: only %d rules were found", w, found)
		}
	}
}

// R3: arguments are not modified, nor memory behind them, and answers are new memory.
func TestR3Make(t *testing.T) {
	for i, a := range autos(200) {
		for j, list := range a.Follow {
			a.Follow[j] = append(list, 77)[:len(list)]
		}
		a.Starts = append(a.Starts, []int{99})[:len(a.Starts)]
		a.Sets = append(a.Sets, set('z'))[:len(a.Sets)]
		kept := clonedAuto(a)
		d, e := dfa.Make(a)
		if !reflect.DeepEqual(clonedAuto(a), kept) {
			t.Fatalf("R3: automaton %d was modified", i)
		}
		if e != api.OK {
			continue
		}
		if !apart(append([][]int{d.Map, d.Accept, d.Start}, d.Rows...)) {
			t.Fatalf("R3: automaton %d: lists share memory: %s", i, written(d))
		}
		want := written(d)
		for _, list := range append(d.Rows, d.Map, d.Accept, d.Start) {
			clear(list[:cap(list)])
		}
		if got := written(made(t, a)); !reflect.DeepEqual(clonedAuto(a), kept) || got != want {
			t.Fatalf("R3: automaton %d: %s, then %s", i, want, got)
		}
	}
}

func TestR3RightAndRun(t *testing.T) {
	dice := dice(88675123)
	for i := range 200 {
		d := dice.table()
		if i%4 == 0 {
			d.Rows[0][0] = 44
		}
		for j, row := range d.Rows {
			d.Rows[j] = append(row, 77)[:len(row)]
		}
		d.Accept = append(d.Accept, 77)[:len(d.Accept)]
		d.Start = append(d.Start, 77)[:len(d.Start)]
		kept := clonedDfa(d)
		dfa.Right(d)
		dfa.Run(d, 0, dice.text(10))
		if !reflect.DeepEqual(clonedDfa(d), kept) {
			t.Fatalf("R3: %d: the argument was modified", i)
		}
	}
}

// R4: calls do not depend on earlier ones.
func TestR4Repeats(t *testing.T) {
	dice := dice(123456789)
	w := dice.text(12)
	answers := func(a api.Auto) string {
		d, e := dfa.Make(a)
		rule, n := -1, 0
		if e == api.OK && len(d.Start) > 0 {
			rule, n = dfa.Run(d, d.Start[0], w)
		}
		return fmt.Sprint(written(d), e, dfa.Right(d), rule, n)
	}
	l := autos(100)
	var first []string
	for _, a := range l {
		first = append(first, answers(a))
	}
	dfa.Make(chain(600))
	for i := range l {
		last := len(l) - 1 - i
		if again := answers(l[last]); again != first[last] {
			t.Errorf("R4: automaton %d: %s, then %s", last, first[last], again)
		}
	}
}
