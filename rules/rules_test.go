package rules_test

import (
	"fmt"
	"reflect"
	"slices"
	"strings"
	"testing"

	"heckle/api"
	"heckle/rules"
	"heckle/spec"
)

// in builds Bytes of single bytes, without the packages that are built.
func in(list ...int) api.Rx {
	var s api.Set
	for _, b := range list {
		s[b/64] |= 1 << (b % 64)
	}
	return api.Rx{Kind: api.Bytes, Set: s}
}

// span builds Bytes of all bytes from the first to the last.
func span(first, last int) api.Rx {
	var list []int
	for b := first; b <= last; b++ {
		list = append(list, b)
	}
	return in(list...)
}

func empty() api.Rx { return api.Rx{Kind: api.Empty} }

func cat(kids ...api.Rx) api.Rx { return api.Rx{Kind: api.Cat, Kids: kids} }

func alt(kids ...api.Rx) api.Rx { return api.Rx{Kind: api.Alt, Kids: kids} }

func rep(x api.Rx, lo, hi int) api.Rx {
	return api.Rx{Kind: api.Rep, Lo: lo, Hi: hi, Kids: []api.Rx{x}}
}

var a, b, newline = in('a'), in('b'), in('\n')

// conds are INITIAL and further conditions; a name behind a ! is that of an Exclusive one.
func conds(names ...string) []api.Cond {
	l := []api.Cond{{Name: "INITIAL"}}
	for _, name := range names {
		bare := strings.TrimPrefix(name, "!")
		l = append(l, api.Cond{Name: bare, Exclusive: bare != name})
	}
	return l
}

// sameRx holds patterns against each other field by field.
func sameRx(x, y api.Rx) bool {
	return x.Kind == y.Kind && x.Set == y.Set && x.Lo == y.Lo && x.Hi == y.Hi && slices.EqualFunc(x.Kids, y.Kids, sameRx)
}

// sameRule holds rules against each other: an empty slice may be nil or not, so DeepEqual is for the other fields alone.
func sameRule(x, y api.Rule) bool {
	if !slices.Equal(x.Conds, y.Conds) || !sameRx(x.Rx, y.Rx) || !sameRx(x.Trail, y.Trail) {
		return false
	}
	x.Conds, x.Rx, x.Trail = y.Conds, y.Rx, y.Trail
	return reflect.DeepEqual(x, y)
}

func same(x, y api.Spec) bool {
	return x.Default == y.Default && slices.Equal(x.Conds, y.Conds) && slices.EqualFunc(x.Rules, y.Rules, sameRule)
}

// parses asks that s is a text of want.
func parses(t *testing.T, s string, want api.Spec) {
	t.Helper()
	x, e, at := rules.Parse(s)
	if e != api.OK || at != 0 || !same(x, want) {
		t.Errorf("G1: %.300q: %v, %d at %d, not %v", s, x, e, at, want)
	}
	if e == api.OK && !spec.Right(x) {
		t.Errorf("G2: %.300q: %v is not valid", s, x)
	}
}

// fails asks that s has an error, and that nothing is told beside it.
func fails(t *testing.T, s string, e api.Errno, at int) {
	t.Helper()
	if x, f, there := rules.Parse(s); f != e || there != at || !reflect.ValueOf(x).IsZero() {
		t.Errorf("G1: %.300q: %v, %d at %d, not %d at %d", s, x, f, there, e, at)
	}
}

// plain is a specification without conditions of its own.
func plain(l ...api.Rule) api.Spec {
	return api.Spec{Conds: conds(), Default: true, Rules: l}
}

func emit(x api.Rx) api.Rule { return api.Rule{Rx: x, Act: api.Emit} }

func TestG1Lines(t *testing.T) {
	one := plain(emit(a))
	for s, want := range map[string]api.Spec{
		"%%":                                plain(),
		"%%\n":                              plain(),
		"%%\n\n":                            plain(),
		"\n\n\n%%":                          plain(),
		"\n%%\n\n\n":                        plain(),
		"%%\na emit":                        one,
		"%%\na emit\n":                      one,
		"%%\n\n\na emit\n\n":                one,
		"\n%%\n\n\na emit":                  one,
		"%%\na emit\n\nb emit\n":            plain(emit(a), emit(b)),
		"%%\nb emit\na emit":                plain(emit(b), emit(a)),
		"%%\na emit\na emit":                plain(emit(a), emit(a)),
		"%%\n%% emit":                       plain(emit(cat(in('%'), in('%')))),
		"%%\n%fold emit":                    plain(emit(cat(in('%'), in('f'), in('o'), in('l'), in('d')))),
		"%%\n%s skip":                       plain(api.Rule{Rx: cat(in('%'), in('s')), Act: api.Skip}),
		strings.Repeat("\n", 9998) + "%%":   plain(),
		"%%" + strings.Repeat("\n", 9998):   plain(),
		strings.Repeat("%fold\n", 9) + "%%": plain(),
	} {
		parses(t, s, want)
	}
	for s, at := range map[string]int{
		"": 0, "\n": 1, "\n\n\n": 3, "%s A": 4, "%s A\n": 5, "%fold": 5, "%nodefault\n\n": 12, "%def A a": 8, "%def A a\n%x A\n": 14,
		strings.Repeat("\n", 10000): 10000, strings.Repeat("%fold\n", 900): 5400, "%def %%\n%%": 5,
		"%% ": 0, " %%": 0, "%%%": 0, "%": 0, "%%\r\n": 0, "\n\n%% \n%%": 2, "%%\x00": 0, "%s A\n%%a": 5,
		" ": 0, "\n \n%%": 1, "a emit": 0, "a emit\n%%": 0, "%%\n ": 3, "%%\n\n\n ": 5, "%%\n%%": 5, "%%\n%%\n": 5,
		"%%\n%s A\n": 6, "%%\n%nodefault": 13, "%%\n%nodefault\n": 13, "%%\na emit\r": 5, "%%\na\remit": 4,
	} {
		fails(t, s, api.ErrSyntax, at)
	}
}

func TestG1Conditions(t *testing.T) {
	for head, want := range map[string][]api.Cond{
		"%s S\n":                     conds("S"),
		"%x S\n":                     conds("!S"),
		"%s S\n\n%x X\n%s _9\n":      conds("S", "!X", "_9"),
		"%x b\n%s a\n%x B\n":         conds("!b", "a", "!B"),
		"%s initial\n%x INITIALS\n":  conds("initial", "!INITIALS"),
		"%s abcdefghijkl\n":          conds("abcdefghijkl"),
		"%s s\n%x x\n%s def\n":       conds("s", "!x", "def"),
		"%def D a\n%s D\n%x C\n":     conds("D", "!C"),
		"%s C\n%def C a\n%x D\n":     conds("C", "!D"),
		"%def INITIAL a\n%s fold\n":  conds("fold"),
		"%s A\n%s B\n%s C\n%s D\n":   conds("A", "B", "C", "D"),
		"%s nodefault\n%s EOF\n":     conds("nodefault", "EOF"),
		"%x _\n%x __\n%s _a9\n\n\n":  conds("!_", "!__", "_a9"),
		"%fold\n%s S\n%fold\n%s s\n": conds("S", "s"),
	} {
		parses(t, head+"%%", api.Spec{Conds: want, Default: true})
		parses(t, "%nodefault\n"+head+"%%\n", api.Spec{Conds: want})
		parses(t, head+"%nodefault\n%nodefault\n%%\n", api.Spec{Conds: want})
	}
	for s, want := range map[string]bad{
		"%s":                  {api.ErrSyntax, 0},
		"%x\n%%":              {api.ErrSyntax, 0},
		"%sA\n%%":             {api.ErrSyntax, 0},
		"%S A\n%%":            {api.ErrSyntax, 0},
		"%X A\n%%":            {api.ErrSyntax, 0},
		" %s A\n%%":           {api.ErrSyntax, 0},
		"s A\n%%":             {api.ErrSyntax, 0},
		"%s\tA\n%%":           {api.ErrSyntax, 0},
		"%s ":                 {api.ErrSyntax, 3},
		"%s \n%%":             {api.ErrSyntax, 3},
		"%x  A\n%%":           {api.ErrSyntax, 3},
		"%x A \n%%":           {api.ErrSyntax, 3},
		"%x A B\n%%":          {api.ErrSyntax, 3},
		"%x A,B\n%%":          {api.ErrSyntax, 3},
		"%s 1A\n%%":           {api.ErrSyntax, 3},
		"%s A-B\n%%":          {api.ErrSyntax, 3},
		"%s *\n%%":            {api.ErrSyntax, 3},
		"%s \xc4\n%%":         {api.ErrSyntax, 3},
		"%s A\r\n%%":          {api.ErrSyntax, 3},
		"%s abcdefghijklm":    {api.ErrSyntax, 3},
		"\n\n%s 1\n%%":        {api.ErrSyntax, 5},
		"%s INITIAL\n%%":      {api.ErrName, 3},
		"%x INITIAL\n%%":      {api.ErrName, 3},
		"%s A\n%s A\n%%":      {api.ErrName, 8},
		"%s A\n%x A\n%%":      {api.ErrName, 8},
		"%x A\n%s B\n\n%s A":  {api.ErrName, 14},
		"%s A\n%s A\n%s 1\n":  {api.ErrName, 8},
		"%s A\n%s A B\n%%":    {api.ErrSyntax, 8},
		"%s A\n%y\n%s A\n%%":  {api.ErrSyntax, 5},
		"%nodefault A\n%%":    {api.ErrSyntax, 0},
		"%nodefault \n%%":     {api.ErrSyntax, 0},
		"%Nodefault\n%%":      {api.ErrSyntax, 0},
		"%s A\n%nodefaul\n%%": {api.ErrSyntax, 5},
		"%fold A\n%%":         {api.ErrSyntax, 0},
		"\n%folds\n%%":        {api.ErrSyntax, 1},
	} {
		fails(t, s, want.e, want.at)
	}
}

func TestG1Definitions(t *testing.T) {
	digit := span('0', '9')
	for s, want := range map[string]api.Rx{
		"%def D [0-9]\n%%\n{D}+ emit":                           rep(digit, 1, -1),
		"%def D [0-9]\n%def E {D}|a\n%%\n{E}b emit":             cat(alt(digit, a), b),
		"%def E a\n%def D {E}b\n%def F {D}{E}\n%%\n{F} emit":    cat(a, b, a),
		"%def D \\/[/$]\\$\n%%\n{D} emit":                       cat(in('/'), in('$', '/'), in('$')),
		"%def D ()\n%%\n{D} emit":                               empty(),
		"%def D |\n%%\n{D} emit":                                alt(empty(), empty()),
		"%def d a\n%def D b\n%%\n{D}{d} emit":                   cat(b, a),
		"%def fold a\n%def nodefault b\n%%\n{nodefault} emit":   b,
		"%def abcdefghijkl b\n\n\n%%\n\n{abcdefghijkl} emit":    b,
		"%def D a\n%fold\n%%\n{D}a emit":                        cat(a, in('A', 'a')),
		"%fold\n%def D a\n%%\n{D}b emit":                        cat(in('A', 'a'), in('B', 'b')),
		"%def D a\n%fold\n%def E {D}b\n%%\n{E}[^c] emit":        cat(a, in('B', 'b'), not('C', 'c')),
		"%def D a\n%fold\n%fold\n%def E b\n%%\n{D}{E} emit":     cat(a, in('B', 'b')),
		"%fold\n%nodefault\n%s A\n%%\na emit":                   in('A', 'a'),
		"%%\n%fold emit\na emit":                                cat(in('%'), in('f'), in('o'), in('l'), in('d')),
		"%def D " + strings.Repeat("a", 200) + "\n%%\n{D} emit": cat(slices.Repeat([]api.Rx{a}, 200)...),
	} {
		if x, e, at := rules.Parse(s); e != api.OK || at != 0 || !sameRx(x.Rules[0].Rx, want) {
			t.Errorf("G1: %q: %v, %d at %d, not %v", s, x, e, at, want)
		}
	}
	for s, want := range map[string]bad{
		"%def":                               {api.ErrSyntax, 0},
		"%defD a":                            {api.ErrSyntax, 0},
		"%Def D a":                           {api.ErrSyntax, 0},
		"%def ":                              {api.ErrSyntax, 5},
		"%def  \n%%":                         {api.ErrSyntax, 5},
		"%def  a\n%%":                        {api.ErrSyntax, 5},
		"%def 1\n%%":                         {api.ErrSyntax, 5},
		"%def 1 [\n%%":                       {api.ErrSyntax, 5},
		"%def {D} a\n%%":                     {api.ErrSyntax, 5},
		"%def D/ a\n%%":                      {api.ErrSyntax, 5},
		"%def abcdefghijklm a\n%%":           {api.ErrSyntax, 5},
		"%def D\n%%":                         {api.ErrSyntax, 6},
		"%def D":                             {api.ErrSyntax, 6},
		"%def D ":                            {api.ErrSyntax, 7},
		"\n%def D \n%%":                      {api.ErrSyntax, 8},
		"%def D  a\n%%":                      {api.ErrSyntax, 7},
		"%def D a \n%%":                      {api.ErrSyntax, 8},
		"%def D a b\n%%":                     {api.ErrSyntax, 8},
		"%def D a/b\n%%":                     {api.ErrSyntax, 8},
		"%def D a$\n%%":                      {api.ErrSyntax, 8},
		"%def D ^a\n%%":                      {api.ErrSyntax, 7},
		"%def D [a b]\n%%":                   {api.ErrSyntax, 9},
		"%def D (a\n)\n%%":                   {api.ErrSyntax, 9},
		"%def D a\\\n%%":                     {api.ErrSyntax, 9},
		"%def D [a\n]\n%%":                   {api.ErrSyntax, 9},
		"%def D {E}\n%%":                     {api.ErrName, 8},
		"%def D {D}\n%%":                     {api.ErrName, 8},
		"%def D a{D}\n%def E a\n%%":          {api.ErrName, 9},
		"%def D {E}\n%def E a\n%%":           {api.ErrName, 8},
		"%s D\n%def E {D}\n%%":               {api.ErrName, 13},
		"%def D a{0}\n%%":                    {api.ErrRange, 8},
		"%def D ab[c-a]\n%%":                 {api.ErrRange, 12},
		"%def D [^\\x00-\\xff]\n%%":          {api.ErrRange, 7},
		"%def D " + paren(21):                {api.ErrLong, 27},
		"%def D a{20}{20}\n%%":               {api.ErrLong, 7},
		"%def D a\n%def D b\n%%":             {api.ErrName, 14},
		"%def D a\n%def D\n%%":               {api.ErrName, 14},
		"%def D a\n%def D [\n%%":             {api.ErrName, 14},
		"%def D a\n%def E b\n%def D \n":      {api.ErrName, 23},
		"%def D a\n%def D1\n%%":              {api.ErrSyntax, 16},
		"%def D [\n%def D b\n%%":             {api.ErrSyntax, 8},
		"%def D {20}\n%%":                    {api.ErrSyntax, 8},
		"%def A a{20}\n%def B {A}{11}\n":     {api.ErrLong, 20},
		"%def D " + strings.Repeat("a", 201): {api.ErrLong, 7},
		"%def D " + strings.Repeat("a", 101) + "\n%%\n{D}{D} emit": {api.ErrLong, 112},
	} {
		fails(t, s, want.e, want.at)
	}
}

// paren is so many parentheses, one in the other.
func paren(n int) string { return strings.Repeat("(", n) + strings.Repeat(")", n) }

// not is all bytes but those.
func not(list ...int) api.Rx {
	x := in(list...)
	for i := range x.Set {
		x.Set[i] = ^x.Set[i]
	}
	return x
}

const head = "%s S\n%x X\n%def D a\n%s _9\n%%\n" // 27 bytes

// holdsRule asks that a line is a rule, by itself, and between others, with an end and without.
func holdsRule(t *testing.T, line string, want api.Rule) {
	t.Helper()
	s := api.Spec{Conds: conds("S", "!X", "_9"), Default: true, Rules: []api.Rule{want}}
	parses(t, head+line, s)
	s.Rules = append(slices.Repeat([]api.Rule{emit(b)}, 38), want, emit(a))
	parses(t, head+strings.Repeat("b emit\n", 38)+line+"\na emit\n", s)
}

func TestG1RuleConditions(t *testing.T) {
	for starts, want := range map[string]api.Rule{
		"":                 {},
		"<*>":              {All: true},
		"<INITIAL>":        {Conds: []int{0}},
		"<S>":              {Conds: []int{1}},
		"<X>":              {Conds: []int{2}},
		"<_9,X>":           {Conds: []int{2, 3}},
		"<X,INITIAL,S>":    {Conds: []int{0, 1, 2}},
		"<_9,X,S,INITIAL>": {Conds: []int{0, 1, 2, 3}},
		"<INITIAL,S,X,_9>": {Conds: []int{0, 1, 2, 3}},
	} {
		eof := want
		eof.Eof, eof.Act = true, api.Skip
		holdsRule(t, starts+"<<EOF>> skip", eof)
		want.Rx, want.Act = a, api.Emit
		holdsRule(t, starts+"a emit", want)
		want.Bol, want.Trail, want.Act, want.To = true, b, api.Begin, 2
		holdsRule(t, starts+"^{D}/b begin X", want)
	}
}

func TestG1RuleMatches(t *testing.T) {
	for line, want := range map[string]api.Rule{
		"a":              {Rx: a},
		"^a":             {Rx: a, Bol: true},
		"a$":             {Rx: a, Trail: newline},
		"^a$":            {Rx: a, Bol: true, Trail: newline},
		"a/b":            {Rx: a, Trail: b},
		"^a/b":           {Rx: a, Bol: true, Trail: b},
		"a/\\n":          {Rx: a, Trail: newline},
		"()/()":          {Rx: empty(), Trail: empty()},
		"()$":            {Rx: empty(), Trail: newline},
		"|/|":            {Rx: alt(empty(), empty()), Trail: alt(empty(), empty())},
		"a|b/b|a":        {Rx: alt(a, b), Trail: alt(b, a)},
		"<<EOF>>":        {Eof: true},
		"{D}{D}/{D}b":    {Rx: cat(a, a), Trail: cat(a, b)},
		"emit":           {Rx: cat(in('e'), in('m'), in('i'), in('t'))},
		"\\^a":           {Rx: cat(in('^'), a)},
		"^\\^":           {Rx: in('^'), Bol: true},
		"\\<\\<a":        {Rx: cat(in('<'), in('<'), a)},
		"[<]":            {Rx: in('<')},
		"[/]/[/]":        {Rx: in('/'), Trail: in('/')},
		"[$]$":           {Rx: in('$'), Trail: newline},
		"\\//\\/":        {Rx: in('/'), Trail: in('/')},
		"\\$$":           {Rx: in('$'), Trail: newline},
		"\\\\/a":         {Rx: in('\\'), Trail: a},
		"\\\\\\//a":      {Rx: cat(in('\\'), in('/')), Trail: a},
		"\\\\$":          {Rx: in('\\'), Trail: newline},
		"\\[/\\]":        {Rx: in('['), Trail: in(']')},
		"\\[$":           {Rx: in('['), Trail: newline},
		"[[/]/a":         {Rx: in('/', '['), Trail: a},
		"[\\]/]/a":       {Rx: in('/', ']'), Trail: a},
		"[\\\\]/a":       {Rx: in('\\'), Trail: a},
		"[\\\\\\]$]$":    {Rx: in('$', '\\', ']'), Trail: newline},
		"[a\\[/]/\\]":    {Rx: in('/', '[', 'a'), Trail: in(']')},
		"\\]/[$/]":       {Rx: in(']'), Trail: in('$', '/')},
		"\\x2f/\\x24":    {Rx: in('/'), Trail: in('$')},
		"\\x20":          {Rx: in(' ')},
		"[\\x20/$]/a":    {Rx: in(' ', '$', '/'), Trail: a},
		"[^/]$":          {Rx: not('/'), Trail: newline},
		"[^$-/]/(a|[$])": {Rx: not('$', '%', '&', '\'', '(', ')', '*', '+', ',', '-', '.', '/'), Trail: alt(a, in('$'))},
		"\\[[/]\\]/b":    {Rx: cat(in('['), in('/'), in(']')), Trail: b},
		"[a][/][b]/a":    {Rx: cat(a, in('/'), b), Trail: a},
		"\\\\[/]/\\\\":   {Rx: cat(in('\\'), in('/')), Trail: in('\\')},
		"a{2}/b{0,}":     {Rx: rep(a, 2, 2), Trail: rep(b, 0, -1)},
	} {
		want.Act = api.Skip
		holdsRule(t, line+" skip", want)
		want.Act, want.To = api.Begin, 3
		holdsRule(t, line+" begin _9", want)
		want.Conds = []int{1, 2}
		holdsRule(t, "<X,S>"+line+" begin _9", want)
	}
}

func TestG1Actions(t *testing.T) {
	for text, want := range map[string]api.Rule{
		"emit": {Act: api.Emit}, "skip": {Act: api.Skip},
		"begin INITIAL": {Act: api.Begin}, "begin S": {Act: api.Begin, To: 1}, "begin X": {Act: api.Begin, To: 2}, "begin _9": {Act: api.Begin, To: 3},
	} {
		want.Rx = a
		holdsRule(t, "a "+text, want)
		want.Rx, want.Eof = api.Rx{}, true
		holdsRule(t, "<<EOF>> "+text, want)
	}
}

// holdsFault asks for an error in a line, at a position in it, wherever a rule can stand.
func holdsFault(t *testing.T, line string, e api.Errno, at int) {
	t.Helper()
	for _, before := range []string{head, head + "\n\n", head + "a emit\n", head + strings.Repeat("<*>a|b$ skip\n", 39)} {
		fails(t, before+line, e, len(before)+at)
		fails(t, before+line+"\n", e, len(before)+at)
		fails(t, before+line+"\n\na\n>", e, len(before)+at)
	}
}

func TestG1FaultsOfConditions(t *testing.T) {
	for line, want := range map[string]bad{
		"<":                       {api.ErrSyntax, 1},
		"<>a emit":                {api.ErrSyntax, 1},
		"<>":                      {api.ErrSyntax, 1},
		"<,S>a emit":              {api.ErrSyntax, 1},
		"<S,>a emit":              {api.ErrSyntax, 3},
		"<S,":                     {api.ErrSyntax, 3},
		"<S,,X>a emit":            {api.ErrSyntax, 3},
		"< S>a emit":              {api.ErrSyntax, 1},
		"<S >a emit":              {api.ErrSyntax, 1},
		"<S, X>a emit":            {api.ErrSyntax, 3},
		"<S X>a emit":             {api.ErrSyntax, 1},
		"<1>a emit":               {api.ErrSyntax, 1},
		"<S":                      {api.ErrSyntax, 2},
		"<S,X":                    {api.ErrSyntax, 4},
		"<S,X emit":               {api.ErrSyntax, 3},
		"<S a emit":               {api.ErrSyntax, 1},
		"<S,abcdefghijklm>a emit": {api.ErrSyntax, 3},
		"<*":                      {api.ErrSyntax, 1},
		"<*a emit":                {api.ErrSyntax, 1},
		"<*,S>a emit":             {api.ErrSyntax, 1},
		"<S,*>a emit":             {api.ErrSyntax, 3},
		"<**>a emit":              {api.ErrSyntax, 1},
		"<S,<X>a emit":            {api.ErrSyntax, 3},
		"<S<X>a emit":             {api.ErrSyntax, 1},
		"<T>a emit":               {api.ErrName, 1},
		"<T":                      {api.ErrName, 1},
		"<T,1>a emit":             {api.ErrName, 1},
		"<1,T>a emit":             {api.ErrSyntax, 1},
		"<s>a emit":               {api.ErrName, 1},
		"<D>a emit":               {api.ErrName, 1},
		"<initial>a emit":         {api.ErrName, 1},
		"<EOF>a emit":             {api.ErrName, 1},
		"<EOF>> emit":             {api.ErrName, 1},
		"<S,T>(":                  {api.ErrName, 3},
		"<S,S>a emit":             {api.ErrName, 3},
		"<S,S":                    {api.ErrName, 3},
		"<X,S,X>a emit":           {api.ErrName, 5},
		"<INITIAL,INITIAL>a emit": {api.ErrName, 9},
		"<S><X>a emit":            {api.ErrSyntax, 3},
		"<*><*>a emit":            {api.ErrSyntax, 3},
		"<*><S>a emit":            {api.ErrSyntax, 3},
		"<S>>a emit":              {api.ErrSyntax, 3},
		"<S>":                     {api.ErrSyntax, 3},
		"<*>":                     {api.ErrSyntax, 3},
		"<S> emit":                {api.ErrSyntax, 3},
		"<*> a emit":              {api.ErrSyntax, 3},
		" <S>a emit":              {api.ErrSyntax, 0},
		"^<S>a emit":              {api.ErrSyntax, 1},
		">a emit":                 {api.ErrSyntax, 0},
	} {
		holdsFault(t, line, want.e, want.at)
	}
}

func TestG1FaultsOfMatches(t *testing.T) {
	for line, want := range map[string]bad{
		" ":                     {api.ErrSyntax, 0},
		" emit":                 {api.ErrSyntax, 0},
		" a emit":               {api.ErrSyntax, 0},
		"/":                     {api.ErrSyntax, 0},
		"/b emit":               {api.ErrSyntax, 0},
		"$ emit":                {api.ErrSyntax, 0},
		"^":                     {api.ErrSyntax, 1},
		"^ emit":                {api.ErrSyntax, 1},
		"^/a emit":              {api.ErrSyntax, 1},
		"^$ emit":               {api.ErrSyntax, 1},
		"^^a emit":              {api.ErrSyntax, 1},
		"a^ emit":               {api.ErrSyntax, 1},
		"a/":                    {api.ErrSyntax, 2},
		"a/ emit":               {api.ErrSyntax, 2},
		"a/$ emit":              {api.ErrSyntax, 2},
		"a//b emit":             {api.ErrSyntax, 2},
		"a/^b emit":             {api.ErrSyntax, 2},
		"a/<<EOF>> emit":        {api.ErrSyntax, 2},
		"a/b/":                  {api.ErrSyntax, 3},
		"a/b$ emit":             {api.ErrSyntax, 3},
		"a$/b emit":             {api.ErrSyntax, 2},
		"a$$ emit":              {api.ErrSyntax, 2},
		"a$b emit":              {api.ErrSyntax, 2},
		"a$":                    {api.ErrSyntax, 2},
		"a":                     {api.ErrSyntax, 1},
		"a/b":                   {api.ErrSyntax, 3},
		"a\temit":               {api.ErrSyntax, 1},
		"a\x00 emit":            {api.ErrSyntax, 1},
		"a\xff emit":            {api.ErrSyntax, 1},
		"\xc3\xa4 emit":         {api.ErrSyntax, 0},
		"<<EOF>>":               {api.ErrSyntax, 7},
		"<<EOF>>emit":           {api.ErrSyntax, 7},
		"<<EOF>>a emit":         {api.ErrSyntax, 7},
		"<<EOF>>$ emit":         {api.ErrSyntax, 7},
		"<<EOF>>/a emit":        {api.ErrSyntax, 7},
		"<<EOF>><<EOF>> emit":   {api.ErrSyntax, 7},
		"^<<EOF>> emit":         {api.ErrSyntax, 1},
		"<S>^<<EOF>> emit":      {api.ErrSyntax, 4},
		"a<<EOF>> emit":         {api.ErrSyntax, 1},
		"<<EOF> emit":           {api.ErrSyntax, 0},
		"<<EOF emit":            {api.ErrSyntax, 0},
		"<<eof>> emit":          {api.ErrSyntax, 0},
		"<<S>>a emit":           {api.ErrSyntax, 0},
		"<<<EOF>> emit":         {api.ErrSyntax, 0},
		"<S><<<EOF>> emit":      {api.ErrSyntax, 3},
		"<S><EOF>> emit":        {api.ErrSyntax, 3},
		"<<":                    {api.ErrSyntax, 0},
		"<S>b<<EOF>> emit":      {api.ErrSyntax, 4},
		"(a emit":               {api.ErrSyntax, 2},
		"a) emit":               {api.ErrSyntax, 1},
		"(a b) emit":            {api.ErrSyntax, 2},
		"(a/b) emit":            {api.ErrSyntax, 2},
		"(a$) emit":             {api.ErrSyntax, 2},
		"a/b) emit":             {api.ErrSyntax, 3},
		"* emit":                {api.ErrSyntax, 0},
		"a/* emit":              {api.ErrSyntax, 2},
		"<S>a/b\\q emit":        {api.ErrSyntax, 7},
		"[ emit":                {api.ErrSyntax, 1},
		"[] emit":               {api.ErrSyntax, 1},
		"[a b] emit":            {api.ErrSyntax, 2},
		"[a/ emit":              {api.ErrSyntax, 3},
		"[$a":                   {api.ErrSyntax, 3},
		"[$":                    {api.ErrSyntax, 2},
		"[]/] emit":             {api.ErrSyntax, 1},
		"[^]/a] emit":           {api.ErrSyntax, 2},
		"[[a]/] emit":           {api.ErrSyntax, 5},
		"[a\\]/b emit":          {api.ErrSyntax, 6},
		"[a\\\\]/] emit":        {api.ErrSyntax, 6},
		"a\\ emit":              {api.ErrSyntax, 2},
		"a\\":                   {api.ErrSyntax, 2},
		"a\\ \\":                {api.ErrSyntax, 2},
		"[\\":                   {api.ErrSyntax, 2},
		"[\\ ]/a emit":          {api.ErrSyntax, 2},
		"a/\\ b emit":           {api.ErrSyntax, 3},
		"\\\\\\ emit":           {api.ErrSyntax, 3},
		"{D/a} emit":            {api.ErrSyntax, 2},
		"{D emit":               {api.ErrSyntax, 2},
		"{} emit":               {api.ErrSyntax, 1},
		"\"a\" emit":            {api.ErrSyntax, 0},
		"{E} emit":              {api.ErrName, 1},
		"<*>b{E}( emit":         {api.ErrName, 5},
		"{S} emit":              {api.ErrName, 1},
		"a/{INITIAL} emit":      {api.ErrName, 3},
		"{d}":                   {api.ErrName, 1},
		"^a{21}$ emit":          {api.ErrRange, 2},
		"a/b{2,1}":              {api.ErrRange, 3},
		"[b-a]/":                {api.ErrRange, 3},
		"a[^\\x00-\\xff]( emit": {api.ErrRange, 1},
		paren(21) + " emit":     {api.ErrLong, 20},
		"a/" + paren(22):        {api.ErrLong, 22},
		"<S>^a{20}{11} begin":   {api.ErrLong, 4},
		"b/a{20}{11}":           {api.ErrLong, 2},
		"a{20}{11}/":            {api.ErrLong, 0},
		"(a{20}){10}{D}/( em":   {api.ErrLong, 0},
	} {
		holdsFault(t, line, want.e, want.at)
	}
}

func TestG1FaultsOfActions(t *testing.T) {
	for text, want := range map[string]bad{
		"":                     {api.ErrSyntax, 0},
		" ":                    {api.ErrSyntax, 1},
		"  emit":               {api.ErrSyntax, 1},
		" emi":                 {api.ErrSyntax, 1},
		" emit ":               {api.ErrSyntax, 1},
		" emits":               {api.ErrSyntax, 1},
		" emit S":              {api.ErrSyntax, 1},
		" emit skip":           {api.ErrSyntax, 1},
		" Emit":                {api.ErrSyntax, 1},
		" skip\t":              {api.ErrSyntax, 1},
		" skip ":               {api.ErrSyntax, 1},
		" /b emit":             {api.ErrSyntax, 1},
		" begin":               {api.ErrSyntax, 1},
		" beginS":              {api.ErrSyntax, 1},
		" begins S":            {api.ErrSyntax, 1},
		" begin\tS":            {api.ErrSyntax, 1},
		" Begin S":             {api.ErrSyntax, 1},
		" begin ":              {api.ErrSyntax, 7},
		" begin  S":            {api.ErrSyntax, 7},
		" begin S ":            {api.ErrSyntax, 7},
		" begin S X":           {api.ErrSyntax, 7},
		" begin S,X":           {api.ErrSyntax, 7},
		" begin <S>":           {api.ErrSyntax, 7},
		" begin *":             {api.ErrSyntax, 7},
		" begin 0":             {api.ErrSyntax, 7},
		" begin abcdefghijkl":  {api.ErrName, 7},
		" begin bcdefghijklmn": {api.ErrSyntax, 7},
		" begin T":             {api.ErrName, 7},
		" begin s":             {api.ErrName, 7},
		" begin D":             {api.ErrName, 7},
		" begin initial":       {api.ErrName, 7},
		"emit":                 {api.ErrSyntax, 0},
	} {
		for _, matches := range []string{"a$", "<X>a$", "<<EOF>>", "<*><<EOF>>", "^[/$]$"} {
			holdsFault(t, matches+text, want.e, len(matches)+want.at)
		}
		// A pattern would take what stands right behind it.
		if text == "" || text[0] == ' ' {
			for _, matches := range []string{"a", "b/a", "<S,X>\\/a", "[/$]"} {
				holdsFault(t, matches+text, want.e, len(matches)+want.at)
			}
		}
	}
	holdsFault(t, "aemit", api.ErrSyntax, 5)
	holdsFault(t, "a/bskip", api.ErrSyntax, 7)
}

// some is n lines, in which # is a letter, another one in each.
func some(line string, n int) string {
	var s strings.Builder
	for i := range n {
		s.WriteString(strings.ReplaceAll(line, "#", string(rune('a'+i))))
	}
	return s.String()
}

func TestG1MostConditions(t *testing.T) {
	full := conds("a", "b", "c", "d", "e", "f", "g")
	seven := some("%s #\n", 7)
	parses(t, seven+"%%", api.Spec{Conds: full, Default: true})
	for i := range full[1:] {
		full[i+1].Exclusive = true
	}
	parses(t, some("\n%x #\n", 7)+"%nodefault\n%def h a\n%%", api.Spec{Conds: full})
	for _, line := range []string{"%s h\n%%", "%x h", "%s ", "%x \n%%", "%s a\n%%", "%s INITIAL", "%x 1\n%%", "%s h i\n%%", "%s  h\n"} {
		fails(t, seven+line, api.ErrLong, len(seven)+3)
		fails(t, seven+"%fold\n"+line, api.ErrLong, len(seven)+9)
	}
	fails(t, seven+"%s\n", api.ErrSyntax, len(seven))
	fails(t, seven+"%y\n%s h", api.ErrSyntax, len(seven))
	fails(t, some("%s #\n", 6)+"%s a\n%s h\n%s i", api.ErrName, 33)
}

func TestG1MostDefinitions(t *testing.T) {
	twenty := some("%def # a\n", 20)
	parses(t, twenty+"%s u\n%%\n{a}{t} emit", api.Spec{Conds: conds("u"), Default: true, Rules: []api.Rule{emit(cat(a, a))}})
	for _, line := range []string{"%def u a\n%%", "%def ", "%def \n%%", "%def u", "%def u \n%%", "%def u [\n%%", "%def a a\n%%", "%def a", "%def 1 a", "%def  a", "%def u {v}"} {
		fails(t, twenty+line, api.ErrLong, len(twenty)+5)
		fails(t, twenty+"\n%s A\n"+line, api.ErrLong, len(twenty)+11)
	}
	fails(t, twenty+"%def\n", api.ErrSyntax, len(twenty))
	fails(t, twenty+"%s 1\n%def u a", api.ErrSyntax, len(twenty)+3)
	fails(t, some("%def # a\n", 19)+"%def a a\n%def t a\n%def u a", api.ErrName, 176)
	fails(t, some("%def # a\n", 19)+"%def t\n%def u a\n%def v a", api.ErrSyntax, 177)
}

func TestG1MostRules(t *testing.T) {
	forty := "%%\n" + strings.Repeat("a emit\n", 40)
	parses(t, forty, plain(slices.Repeat([]api.Rule{emit(a)}, 40)...))
	parses(t, forty+"\n\n\n", plain(slices.Repeat([]api.Rule{emit(a)}, 40)...))
	for _, line := range []string{"a emit", "a emit\n", " ", "<", "<*>", "<1>a emit", "( emit", "a", "a begin T", "<<EOF>> emit", "%%", "\x00", "{E} emit\n"} {
		fails(t, forty+line, api.ErrLong, len(forty))
		fails(t, forty+"\n\n"+line+"\na emit\n", api.ErrLong, len(forty)+2)
	}
	fails(t, "%%\n"+strings.Repeat("a emit\n", 39)+"a\na emit\na emit", api.ErrSyntax, 277)
}

func TestG1TextLength(t *testing.T) {
	rule := "%%\na emit"
	parses(t, rule+strings.Repeat("\n", 10000-len(rule)), plain(emit(a)))
	fails(t, rule+strings.Repeat("\n", 10001-len(rule)), api.ErrLong, 0)
	fails(t, strings.Repeat(" ", 10000), api.ErrSyntax, 0)
	fails(t, strings.Repeat(" ", 10001), api.ErrLong, 0)
	fails(t, strings.Repeat("%%\n", 1<<20), api.ErrLong, 0)
	fails(t, "%s 1\n"+strings.Repeat("\n", 9996), api.ErrLong, 0)
	parses(t, "%%\n["+strings.Repeat("a", 9990)+"] emit", plain(emit(a)))
	fails(t, "%%\n["+strings.Repeat("a", 9991)+"] emit", api.ErrLong, 0)
	fails(t, "%%\n["+strings.Repeat("/", 9995)+"]", api.ErrSyntax, 10000)
}

func TestG1FirstError(t *testing.T) {
	for s, want := range map[string]bad{
		"%s 1\n%s INITIAL\n":              {api.ErrSyntax, 3},
		"%s INITIAL\n%s 1\n":              {api.ErrName, 3},
		"%def D {E}\n%y\n":                {api.ErrName, 8},
		"%y\n%def D {E}\n":                {api.ErrSyntax, 0},
		"%%\na\n( emit":                   {api.ErrSyntax, 4},
		"%%\na{21} emi":                   {api.ErrRange, 4},
		"%%\n<S>a{21} emit":               {api.ErrName, 4},
		"%%\na{21}/{E}":                   {api.ErrRange, 4},
		"%%\na/{E} begin T":               {api.ErrName, 6},
		"%%\na begin T\n<T>a emit":        {api.ErrName, 11},
		"%%\n<T>a emit\na begin T":        {api.ErrName, 4},
		"%%\na begin 1\n%s":               {api.ErrSyntax, 11},
		"%%\n{D} emit\n%def D a":          {api.ErrName, 4},
		"%%\n<S>a emit\n%s S":             {api.ErrName, 4},
		"%s S\n%%\n<S>a emit\n<S>b":       {api.ErrSyntax, 22},
		"%nodefault\n%fold\n%%\n<*>[b-a]": {api.ErrRange, 26},
	} {
		fails(t, s, want.e, want.at)
	}
}

func TestG1Examples(t *testing.T) {
	fails(t, "%x C\n%%\n<C>[a-z]+/b$", api.ErrSyntax, 19)
	fails(t, "%x C\n%%\n<C>[a-z]+/b$ emit", api.ErrSyntax, 19)
	parses(t, "%x C\n%%\n<C>[a-z]+$ begin INITIAL", api.Spec{Conds: conds("!C"), Default: true, Rules: []api.Rule{
		{Conds: []int{1}, Rx: rep(span('a', 'z'), 1, -1), Trail: newline, Act: api.Begin},
	}})
	parses(t, "%%\n[a-z]+ emit\nif emit\n", plain(emit(rep(span('a', 'z'), 1, -1)), emit(cat(in('i'), in('f')))))
}

// dice are numbers that are the same in each run.
type dice uint64

func (d *dice) roll(n int) int {
	*d ^= *d << 13
	*d ^= *d >> 7
	*d ^= *d << 17
	return int(uint64(*d) >> 11 % uint64(n))
}

func (d *dice) toss() bool { return d.roll(2) == 0 }

// one is one of the parts.
func (d *dice) one(parts []string) string { return parts[d.roll(len(parts))] }

// pick makes a text of up to n of the parts.
func (d *dice) pick(n int, parts []string) string {
	var s strings.Builder
	for range d.roll(n + 1) {
		s.WriteString(d.one(parts))
	}
	return s.String()
}

// agree asks that Parse answers as the oracle does, and that what it answers is valid.
func agree(t *testing.T, s string) api.Errno {
	t.Helper()
	x, e, at := rules.Parse(s)
	y, f, there := oracle(s)
	if e != f || at != there || !same(x, y) {
		t.Fatalf("G1: %q: %v, %d at %d, not %v, %d at %d", s, x, e, at, y, f, there)
	}
	if e == api.OK && !spec.Right(x) {
		t.Fatalf("G2: %q: %v is not valid", s, x)
	}
	return e
}

// declared makes lines that can stand ahead of %%, and sometimes others.
func (d *dice) declared() string {
	names := []string{"S", "X", "T", "_9", "INITIAL", "D", "E", "abcdefghijkl", "", "1", "S X"}
	if d.roll(4) > 0 {
		names = names[:7]
	}
	patterns := []string{"a", "[0-9]", "{D}", "{E}x", "a|b", "[/$]", "\\/", "(", "a b", "a/b", "", "[b-a]", "a{21}"}
	if d.roll(4) > 0 {
		patterns = patterns[:7]
	}
	s := ""
	for range d.roll(4) {
		switch d.roll(8) {
		case 0, 1:
			s += "%s " + d.one(names)
		case 2, 3:
			s += "%x " + d.one(names)
		case 4, 5:
			s += "%def " + d.one(names) + " " + d.one(patterns)
		case 6:
			s += d.one([]string{"%nodefault", "%fold", ""})
		case 7:
			s += d.one([]string{"%fold", "%fold", "%nodefault", "%y", "%def D", "%%", " "})
		}
		s += "\n"
	}
	return s
}

// shaped makes lines that are nearly rules.
func (d *dice) shaped() string {
	starts := []string{"", "", "", "<*>", "<S>", "<X,S>", "<INITIAL>", "<S,S>", "<", "<S", "<S,", "<T>", "<>", "<<"}
	patterns := []string{"a", "b", "[/$]", "\\/", "\\\\", "(a|b)", "{D}", "{E}", "[^\\]]", "x{2}", "[", "]", "x{21}", "[b-a]", "\\", "[]", "{F}", "(", "$", "/", " "}
	actions := []string{"emit", "skip", "begin S", "begin INITIAL", "begin X", "begin T", "begin ", "begin", "emi", ""}
	if d.roll(3) > 0 {
		starts, patterns, actions = starts[:7], patterns[:10], actions[:5]
	}
	s := d.one(starts)
	if d.roll(5) == 0 {
		s += "<<EOF>>"
	} else {
		s += d.one([]string{"", "", "^"}) + d.one(patterns) + d.pick(2, patterns) + d.one([]string{"", "", "$", "/a", "/" + d.one(patterns) + "b"})
	}
	return s + d.one([]string{" ", " ", " ", " ", " ", "", "  "}) + d.one(actions) + "\n"
}

func TestG1AgainstOracle(t *testing.T) {
	bits := []string{"%s ", "%x ", "%def ", "%fold", "%nodefault", "%%", "\n", "\n", "\n", "S", "X", "a", "b", "1", "<", ">", ",", "*", "<<EOF>>", "^", "/", "$", " ", " ", "[", "]", "\\", "{S}", "emit", "skip", "begin ", "\n%%\n", "|", "(", ")", "\t", "\x00", "\x7f"}
	d := dice(21)
	seen := map[api.Errno]int{}
	for i := range 60000 {
		var s string
		switch i % 4 {
		case 0:
			s = d.declared() + "%%\n" + d.shaped()
		case 1:
			s = d.pick(20, bits)
		case 2:
			s = "%s S\n%x X\n%def S b\n%%\n" + d.pick(14, bits)
		case 3:
			s = "%s S\n%x X\n%def D [a-c]\n%def E {D}|b\n%%\n" + d.shaped() + d.shaped()
		}
		seen[agree(t, s)]++
	}
	for _, e := range []api.Errno{api.OK, api.ErrSyntax, api.ErrName, api.ErrRange} {
		if seen[e] < 300 {
			t.Errorf("only %d texts with %d", seen[e], e)
		}
	}
}

func TestG1EveryShortText(t *testing.T) {
	var all func(before string, n int, parts []string, behind string)
	all = func(before string, n int, parts []string, behind string) {
		agree(t, before+behind)
		for i := 0; n > 0 && i < len(parts); i++ {
			all(before+parts[i], n-1, parts, behind)
		}
	}
	all("", 4, []string{"%", "s", " ", "a", "\n", "%%", "%def", "%x "}, "")
	all("", 3, []string{"%s A\n", "%x B\n", "%def A a\n", "%def B {A}\n", "%fold\n", "%nodefault\n", "%%\n", "\n"}, "<A,B>{B}a/a begin B\n")
	all(head, 5, []string{"<", ">", ",", "S", "*", "X"}, "a emit")
	all(head, 5, []string{"[", "]", "\\", "/", "$", " ", "a"}, " emit")
	all(head, 5, []string{"^", "<<", "EOF>>", "<<EOF>>", "/", "a", " emit"}, "")
	all(head+"a", 5, []string{" ", "emit", "begin", "S", "T", "\n"}, "")
}

func TestG1AnyByte(t *testing.T) {
	for b := range 256 {
		c := string([]byte{byte(b)})
		for _, s := range []string{c, "%s " + c, "%def D " + c, "%%" + c, "%%\n" + c + " emit", "%%\n<" + c + ">a emit", "%%\na" + c + "emit", "%%\na begin " + c, "%%\na/[/" + c + " emit", "%%\n\\" + c + " emit", "%%\n[\\" + c + "/]/a emit"} {
			x, e, at := rules.Parse(s)
			if e == api.OK && !spec.Right(x) || e != api.OK && (!reflect.ValueOf(x).IsZero() || at < 0 || at > len(s)) {
				t.Errorf("G1: %q: %v, %d at %d", s, x, e, at)
			}
			// The oracle's expressions go by runes, and behind a byte that is none they are not asked.
			if b < 128 {
				agree(t, s)
			}
		}
		if b >= 128 {
			fails(t, "%s a"+c+"\n%%", api.ErrSyntax, 3)
			fails(t, "%%\na"+c+" emit", api.ErrSyntax, 4)
			fails(t, "%%\n\\"+c+" emit", api.ErrSyntax, 4)
			fails(t, "%%\n[\\"+c+"/]/a emit", api.ErrSyntax, 5)
			fails(t, "%%\n<"+c+">a emit", api.ErrSyntax, 4)
			fails(t, "%%\na emit"+c, api.ErrSyntax, 5)
			fails(t, "%%\na begin "+c, api.ErrSyntax, 11)
		}
	}
}

// pattern makes a pattern as in layer 3's table, of at most the given levels, whose kind isn't the one that is barred.
func (d *dice) pattern(levels, barred int) api.Rx {
	kind := api.Empty + d.roll(5)
	if levels == 1 {
		kind = api.Bytes
	}
	switch {
	case kind == barred || kind == api.Bytes:
		first := d.roll(256)
		return in(first, min(255, first+d.roll(3)), d.roll(256))
	case kind == api.Empty:
		return empty()
	case kind == api.Rep:
		lo := d.roll(3)
		return rep(d.pattern(levels-1, 0), lo, [3]int{-1, max(lo, 1), lo + 2}[d.roll(3)])
	}
	x := api.Rx{Kind: kind}
	for range 2 + d.roll(2) {
		x.Kids = append(x.Kids, d.pattern(levels-1, kind))
	}
	return x
}

func (d *dice) rule(conds int) api.Rule {
	r := api.Rule{All: d.roll(4) == 0, Eof: d.roll(4) == 0, Act: api.Emit + d.roll(3)}
	for c := 0; c < conds && !r.All; c++ {
		if d.roll(3) == 0 {
			r.Conds = append(r.Conds, c)
		}
	}
	if r.Act == api.Begin {
		r.To = d.roll(conds)
	}
	if !r.Eof {
		r.Bol, r.Rx = d.toss(), d.pattern(1+d.roll(5), 0)
		if d.toss() {
			r.Trail = d.pattern(1+d.roll(5), 0)
		}
	}
	return r
}

// spec makes a valid specification.
func (d *dice) spec(most int) api.Spec {
	s := api.Spec{Conds: conds(), Default: d.toss()}
	names := []string{"S", "s", "X", "EOF", "INITIAL_", "initial", "_", "nodefault", "abcdefghijkl", "x9"}
	for range d.roll(api.MaxConds) {
		i := d.roll(len(names))
		s.Conds = append(s.Conds, api.Cond{Name: names[i], Exclusive: d.toss()})
		names = slices.Delete(names, i, i+1)
	}
	for range d.roll(most + 1) {
		s.Rules = append(s.Rules, d.rule(len(s.Conds)))
	}
	return s
}

func TestG2ParseUndoesPrint(t *testing.T) {
	d := dice(77)
	for i := range 4000 {
		s := d.spec([]int{4, 40}[i%2])
		text, e := spec.Print(s)
		if e != api.OK || len(text) > 10000 {
			t.Fatalf("%d: not valid, or too long a text", i)
		}
		parses(t, text, s)
		parses(t, strings.TrimSuffix(text, "\n"), s)
		parses(t, "\n"+strings.ReplaceAll(text, "\n", "\n\n"), s)
	}
}

func TestG2LongestText(t *testing.T) {
	plus := func(n int) []api.Rx { return slices.Repeat([]api.Rx{in('+')}, n) }
	for length, letters := range map[int]int{9999: 2, 10000: 3, 10001: 4} {
		s := plain(slices.Repeat([]api.Rule{emit(cat(plus(200)...))}, 12)...)
		s.Rules = append(s.Rules, emit(cat(append(plus(79), slices.Repeat([]api.Rx{a}, letters)...)...)))
		text, e := spec.Print(s)
		if e != api.OK || len(text) != length {
			t.Fatalf("%d bytes, not %d", len(text), length)
		}
		if length > 10000 {
			fails(t, text, api.ErrLong, 0)
		} else {
			parses(t, text, s)
		}
	}
}

func TestG2EdgesAreUndone(t *testing.T) {
	deep := a
	for range 19 {
		deep = rep(deep, 0, 1)
	}
	mixed := a
	for i := range 19 {
		mixed = api.Rx{Kind: api.Cat + i%2, Kids: []api.Rx{mixed, empty()}}
	}
	every := span(0, 255)
	for i, x := range []api.Rx{
		empty(), every, in(0), in(255), newline, in(' '), in('/'), in('$'), in('^'), in('<'), in('\\'), in('[', ']'), in('a', 'c', 'e'),
		alt(a, empty()), cat(a, alt(a, b)), alt(cat(a, b), a), rep(a, 20, 20), rep(rep(a, 0, 1), 3, -1), deep, mixed,
		cat(slices.Repeat([]api.Rx{a}, 200)...), alt(slices.Repeat([]api.Rx{empty()}, 999)...), rep(cat(slices.Repeat([]api.Rx{in('+')}, 10)...), 20, 20),
	} {
		s := api.Spec{Conds: conds("a", "!b", "c", "!d", "e", "f", "g"), Default: i%2 == 0, Rules: []api.Rule{
			{Rx: x, Act: api.Emit},
			{All: true, Bol: true, Rx: x, Act: api.Skip},
			{Conds: []int{0, 1, 2, 3, 4, 5, 6, 7}, Rx: a, Trail: x, Act: api.Begin, To: 7},
			{Conds: []int{7}, Eof: true, Act: api.Begin},
		}}
		text, e := spec.Print(s)
		if e != api.OK {
			t.Fatalf("%d: not valid", i)
		}
		parses(t, text, s)
	}
}

// whole is a text that uses a definition again and again.
const whole = "%x C\n%s S\n%def D ab\n%def E {D}|c\n%%\n<S,C>{E}/{E} emit\n<S,C>({E}){2}{D} skip\n<C>{D}$ begin C\n{E}x emit\na$ emit\n"

// wipe writes over all of x.
func wipe(x *api.Rx) {
	kids := x.Kids[:cap(x.Kids)]
	for i := range kids {
		wipe(&kids[i])
	}
	*x = api.Rx{Kind: -7}
}

func TestR3Memory(t *testing.T) {
	want, _, _ := rules.Parse(whole)
	text, _ := spec.Print(want)
	for i := range want.Rules {
		for part := range 3 {
			x, _, _ := rules.Parse(whole)
			switch r := &x.Rules[i]; part {
			case 0:
				wipe(&r.Rx)
				r.Rx = want.Rules[i].Rx
			case 1:
				wipe(&r.Trail)
				r.Trail = want.Rules[i].Trail
			case 2:
				for j := range r.Conds[:cap(r.Conds)] {
					r.Conds[:cap(r.Conds)][j] = -7
				}
				r.Conds = want.Rules[i].Conds
			}
			if got, e := spec.Print(x); e != api.OK || got != text {
				t.Errorf("rule %d: two lists of one answer share memory: %q", i, got)
			}
			// What was answered before does not change what is answered later.
			parses(t, whole, want)
		}
	}
}

func TestR4NoState(t *testing.T) {
	texts := []string{whole, "%%", "", "%fold\n%nodefault\n%s S\n%def D a\n%%\n<S>{D}x emit", "%%\nx emit", "%%\n{D} emit", "%%\n<S>a emit", head + "(", "%s 1"}
	var first []string
	for i := range 3 * len(texts) {
		x, e, at := rules.Parse(texts[i%len(texts)])
		got := fmt.Sprint(x, e, at)
		if i < len(texts) {
			first = append(first, got)
		} else if got != first[i%len(texts)] {
			t.Errorf("%q: %s, and %s before", texts[i%len(texts)], got, first[i%len(texts)])
		}
	}
}
