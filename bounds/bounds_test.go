package bounds_test

import (
	"fmt"
	"math"
	"math/rand"
	"regexp"
	"slices"
	"strings"
	"testing"

	"limbeck/api"
	"limbeck/bounds"
	"limbeck/tyread"
)

var (
	integer = api.Ty{K: api.TInt}
	boolean = api.Ty{K: api.TBool}
	str     = api.Ty{K: api.TStr}
	top     = api.Ty{K: api.TTop}
	unknown = api.Ty{K: api.TDyn}
	empty   = api.Ty{K: api.TRec}
)

func variable(s string) api.Ty { return api.Ty{K: api.TVar, Name: s} }

func seal(n int) api.Ty { return api.Ty{K: api.TSeal, N: n} }

func fun(a, b api.Ty) api.Ty { return api.Ty{K: api.TFun, Args: []api.Ty{a, b}} }

func rec(labels string, args ...api.Ty) api.Ty {
	return api.Ty{K: api.TRec, Labels: strings.Fields(labels), Args: args}
}

func bind(s string, a api.Ty) api.Bind { return api.Bind{Name: s, Type: a} }

// deep is that type within so many functions, on either side by turns.
func deep(n int, a api.Ty) api.Ty {
	for i := range n {
		if i%2 == 0 {
			a = fun(unknown, a)
		} else {
			a = fun(a, unknown)
		}
	}
	return a
}

// letters is a type variable that no other number has.
func letters(i int) string { return "V" + fmt.Sprintf("%07x", i) }

// parse is the type of a text, in which Q7 stands for the seal 7.
func parse(t *testing.T, s string) api.Ty {
	t.Helper()
	a, err := tyread.Parse(s)
	if err != nil {
		t.Fatalf("%q is no type", s)
	}
	var walk func(a api.Ty) api.Ty
	walk = func(a api.Ty) api.Ty {
		n := 0
		if _, err := fmt.Sscanf(a.Name, "Q%d", &n); err == nil {
			return seal(n)
		}
		for i := range a.Args { // this type is nobody else's yet
			a.Args[i] = walk(a.Args[i])
		}
		return a
	}
	return walk(a)
}

// binds is the bindings that a text gives, as in "X: Int; Y: X -> X".
func binds(t *testing.T, s string) []api.Bind {
	t.Helper()
	var d []api.Bind
	for _, x := range strings.Split(s, ";") {
		if name, text, ok := strings.Cut(x, ":"); ok {
			d = append(d, bind(strings.TrimSpace(name), parse(t, text)))
		}
	}
	return d
}

// list has the nodes of a type in order, each one before those below it.
func list(a api.Ty) []api.Ty {
	var out []api.Ty
	for rest := []api.Ty{a}; len(rest) > 0; {
		x := rest[len(rest)-1]
		rest = rest[:len(rest)-1]
		out = append(out, x)
		for i := range x.Args {
			rest = append(rest, x.Args[len(x.Args)-1-i])
		}
	}
	return out
}

// exact is a text that no other type has.
func exact(a api.Ty) string {
	var s strings.Builder
	for _, x := range list(a) {
		fmt.Fprintf(&s, "%d %d %q %q %d;", x.K, x.N, x.Name, x.Labels, len(x.Args))
	}
	return s.String()
}

// exactly is a text that no other bindings have.
func exactly(d []api.Bind) string {
	var s strings.Builder
	for _, b := range d {
		fmt.Fprintf(&s, "%q=%s|", b.Name, exact(b.Type))
	}
	return s.String()
}

// short writes a value for a message: a type may be great.
func short(x any) string {
	s := fmt.Sprint(x)
	return s[:min(len(s), 300)]
}

var (
	bindable = regexp.MustCompile(`^[A-Z][a-zA-Z0-9]{0,7}$`)
	typeWord = regexp.MustCompile(`^(Int|Bool|String|Top)$`)
	plain    = regexp.MustCompile(`^[a-z][a-z0-9]{0,7}$`)
	reserved = regexp.MustCompile(`^(let|in|if|then|else|fn|call|def|true|false)$`)
)

// slowBound is the document's definition of a bound, node by node: it has neither variables nor seals.
func slowBound(a api.Ty) bool {
	for _, x := range list(a) {
		bare := x.N == 0 && x.Name == ""
		for i, s := range x.Labels {
			bare = bare && plain.MatchString(s) && !reserved.MatchString(s) && (i == 0 || x.Labels[i-1] < s)
		}
		switch {
		case bare && x.K >= 1 && x.K <= 5 && len(x.Labels) == 0 && len(x.Args) == 0:
		case bare && x.K == 7 && len(x.Labels) == 0 && len(x.Args) == 2:
		case bare && x.K == 8 && len(x.Labels) == len(x.Args):
		default:
			return false
		}
	}
	return true
}

// slowRight finds names that occur twice beside each other, once they are sorted.
func slowRight(d []api.Bind) bool {
	names := slowNames(d)
	slices.Sort(names)
	for i, s := range names {
		if i > 0 && s == names[i-1] || !bindable.MatchString(s) || typeWord.MatchString(s) {
			return false
		}
	}
	return !slices.ContainsFunc(d, func(b api.Bind) bool { return !slowBound(b.Type) })
}

// slowFind goes from the last binding to the first one, so that the first one counts.
func slowFind(d []api.Bind, s string) (a api.Ty, found bool) {
	for i := range d {
		if b := d[len(d)-1-i]; b.Name == s {
			a, found = b.Type, true
		}
	}
	return a, found
}

func slowNames(d []api.Bind) []string {
	names := make([]string, len(d))
	for i := range d {
		names[i] = d[i].Name
	}
	return names
}

// slowIn strikes out the nodes that may stand, and sees whether one is left.
func slowIn(d []api.Bind, a api.Ty) bool {
	return len(slices.DeleteFunc(list(a), func(x api.Ty) bool {
		return x.K != 6 || slices.Contains(slowNames(d), x.Name)
	})) == 0
}

func wantRight(t *testing.T, d []api.Bind, want bool) {
	t.Helper()
	before := exactly(d)
	if got := bounds.Right(d); got != want || slowRight(d) != want {
		t.Errorf("Right(%s) = %v, by the definition %v", short(d), got, slowRight(d))
	}
	if exactly(d) != before {
		t.Errorf("Right has changed %s", short(d))
	}
}

func wantFind(t *testing.T, d []api.Bind, s string) {
	t.Helper()
	want, wanted := slowFind(d, s)
	if got, ok := bounds.Find(d, s); ok != wanted || exact(got) != exact(want) {
		t.Errorf("Find(%s, %q) = %s, %v", short(d), s, short(got), ok)
	}
}

func wantUp(t *testing.T, d []api.Bind, a api.Ty) {
	t.Helper()
	want, wanted := slowFind(d, a.Name)
	if a.K != 6 || !wanted {
		want, wanted = a, false
	}
	if got, ok := bounds.Up(d, a); ok != wanted || exact(got) != exact(want) {
		t.Errorf("Up(%s, %s) = %s, %v", short(d), short(a), short(got), ok)
	}
}

func wantNames(t *testing.T, d []api.Bind, want ...string) {
	t.Helper()
	if got := bounds.Names(d); !slices.Equal(got, want) {
		t.Errorf("Names(%s) = %.300q", short(d), got)
	}
}

func wantIn(t *testing.T, d []api.Bind, a api.Ty, want bool) {
	t.Helper()
	if got := bounds.In(d, a); got != want || slowIn(d, a) != want {
		t.Errorf("In(%s, %s) = %v, by the definition %v", short(d), short(a), got, slowIn(d, a))
	}
}

// wantSlow holds all calls against the definitions, and sees that they change nothing.
func wantSlow(t *testing.T, d []api.Bind, a api.Ty) {
	t.Helper()
	before := exactly(d) + exact(a)
	wantRight(t, d, slowRight(d))
	for _, s := range append(slowNames(d), "", "X", "x", "Zz", a.Name) {
		wantFind(t, d, s)
		wantUp(t, d, variable(s))
	}
	wantUp(t, d, a)
	wantNames(t, d, slowNames(d)...)
	wantIn(t, d, a, slowIn(d, a))
	if exactly(d)+exact(a) != before {
		t.Errorf("the arguments have changed: %s, %s", short(d), short(a))
	}
}

// The document's examples: P9.1 has Right, P9.2 Up.
func TestExamples(t *testing.T) {
	d := binds(t, "X: Int; Y: Top")
	wantRight(t, d, true)
	wantRight(t, nil, true)
	wantRight(t, []api.Bind{}, true)
	wantRight(t, binds(t, "X: Int; X: Int"), false)
	wantRight(t, binds(t, "X: Y"), false)
	wantRight(t, binds(t, "X: Q0"), false)
	wantRight(t, binds(t, "x: Int"), false)
	if got, ok := bounds.Up(binds(t, "X: Int"), variable("X")); !ok || exact(got) != exact(integer) {
		t.Errorf("Up of X: %v, %v", got, ok)
	}
	if got, ok := bounds.Up(binds(t, "X: Int"), integer); ok || exact(got) != exact(integer) {
		t.Errorf("Up of Int: %v, %v", got, ok)
	}
}

// P9.1: all strings of up to two bytes as a name, and longer ones, alone and among others.
func TestRightNames(t *testing.T) {
	names := []string{"", "Int", "Bool", "String", "Top", "Ints", "Tops", "INT", "top", "int", "let", "Let", "True", "Abcdefgh", "Abcdefghi",
		"A1b2C3d4", "A_b", "A b", "A\x00", "\u00c4", "A\u00e4", "Strings", "X.Y", "X ", " X", "?", "#1", "{}"}
	for i := range 256 {
		names = append(names, string([]byte{byte(i)}))
		for j := range 256 {
			names = append(names, string([]byte{byte(i), byte(j)}))
		}
	}
	right := 0
	for _, s := range names {
		d := []api.Bind{bind(s, integer)}
		want := slowRight(d)
		wantRight(t, d, want)
		wantRight(t, []api.Bind{bind("X1y2z3", top), bind("Yzzzz", unknown), bind(s, top)}, want)
		wantRight(t, []api.Bind{bind(s, top), bind("X1y2z3", top)}, want)
		if want {
			right++
		}
	}
	if right != 26+26*62+8 {
		t.Errorf("%d names are right", right)
	}
}

// P9.1: a name that occurs twice, wherever, with the same type or another one.
func TestRightTwice(t *testing.T) {
	types := []api.Ty{integer, boolean, fun(integer, top), integer, unknown, rec("a", str)}
	for n := range len(types) + 1 {
		var d []api.Bind
		for i := range n {
			d = append(d, bind(string(rune('F'-i)), types[i])) // the names need not rise
		}
		wantRight(t, d, true)
		for i := range n {
			for j := range n {
				twice := slices.Clone(d)
				twice[i].Name = d[j].Name
				wantRight(t, twice, i == j)
				twice[i].Type = d[j].Type
				wantRight(t, twice, i == j)
				twice[i].Name = strings.ToLower(d[j].Name)
				wantRight(t, twice, false)
			}
		}
	}
	wantRight(t, binds(t, "X: Int; X1: Int; XX: Int; Xx: Int; XX1: Int; A: Int; B: Int"), true)
	wantRight(t, binds(t, "X: Int; X: Int; X: Int"), false)
	wantRight(t, binds(t, "Y: Int; X: Int; X: Bool; Y: Top"), false)
}

// fine is types that may be bounds.
func fine(t *testing.T) []api.Ty {
	t.Helper()
	var l []api.Ty
	for _, s := range strings.Split("Int;Bool;String;Top;?;{};Int -> Int;? -> Top;{a: Int};{a: ?, b: {c: Top -> {}}};(Int -> {x: ?}) -> Bool -> {}", ";") {
		l = append(l, parse(t, s))
	}
	return append(l, api.Ty{K: api.TRec, Labels: []string{}, Args: []api.Ty{}}, api.Ty{K: api.TInt, Labels: []string{}, Args: []api.Ty{}})
}

// wrong is types that may not be bounds: not valid, not closed, or with a seal.
func wrong() []api.Ty {
	l := []api.Ty{
		variable("X"), variable("Y"), variable("Zz"), seal(0), seal(1), seal(7), seal(1 << 30), seal(1<<30 + 1), seal(-1), seal(math.MinInt), seal(math.MaxInt),
		variable("x"), variable(""), variable("Int"), variable("Abcdefghi"), {}, {K: -1}, {K: 10}, {K: math.MaxInt}, {K: math.MinInt},
		{K: api.TVar, Name: "X", Args: []api.Ty{integer}}, {K: api.TSeal, Name: "X"},
		{K: api.TFun}, {K: api.TFun, Args: []api.Ty{top}}, {K: api.TFun, Args: []api.Ty{top, top, top}}, {K: api.TFun, N: 1, Args: []api.Ty{top, top}},
		rec("b a", top, top), rec("a a", top, top), rec("a"), rec("", top), rec("a b", top), rec("a", top, top), rec("X", top), rec("in", top), rec("abcdefghi", top),
		{K: api.TRec, Name: "a"}, {K: api.TRec, N: 3}, {K: api.TRec, Labels: []string{""}, Args: []api.Ty{top}},
	}
	for k := api.TInt; k <= api.TDyn; k++ {
		l = append(l, api.Ty{K: k, N: 1}, api.Ty{K: k, Name: "X"}, api.Ty{K: k, Labels: []string{"a"}}, api.Ty{K: k, Args: []api.Ty{top}})
	}
	return l
}

// around is that type, and types that have it in some place.
func around(a api.Ty) []api.Ty {
	return []api.Ty{a, fun(a, top), fun(top, a), rec("a", a), rec("a b c", top, a, unknown), rec("a b c", top, str, a),
		fun(rec("x", fun(boolean, a)), rec("y", integer)), deep(9, a)}
}

// P9.1: each type, at each place of a bound, of each of several bindings.
func TestRightTypes(t *testing.T) {
	hold := func(a api.Ty, want bool) {
		for _, b := range around(a) {
			for n := range 4 {
				d := binds(t, "A: Int; B: ?; C: {}; D: Top -> Top")
				d[n].Type = b
				wantRight(t, d, want)
				wantRight(t, d[n:n+1], want)
			}
		}
	}
	for _, a := range fine(t) {
		hold(a, true)
	}
	for _, a := range wrong() {
		hold(a, false)
	}
}

// P9.1: a bound has no variable, not even one that the list binds, earlier or later or itself.
func TestRightOpen(t *testing.T) {
	wantRight(t, binds(t, "X: Int; Y: X"), false)
	wantRight(t, binds(t, "X: Y; Y: Int"), false)
	wantRight(t, binds(t, "X: X"), false)
	wantRight(t, binds(t, "X: {a: X} -> Top"), false)
	wantRight(t, binds(t, "X: Int; Y: {a: Int -> X}"), false)
	wantRight(t, binds(t, "X: {a: Q7}"), false)
	wantRight(t, binds(t, "X: Q0; Y: Int"), false)
	wantRight(t, binds(t, "X: ?; Y: {a: ?} -> Top"), true)
}

// P9.1: there is no limit for the number of bindings, nor for the nodes and the depth of a bound.
func TestRightLarge(t *testing.T) {
	var d []api.Bind
	for i := range 1 << 16 {
		d = append(d, bind(letters(i), integer))
	}
	wantRight(t, d, true)
	for _, i := range []int{0, 1, 1 << 15, 1<<16 - 2} {
		was := d[i]
		d[i].Name = d[1<<16-1].Name
		wantRight(t, d, false)
		d[i] = bind(was.Name, variable("X"))
		wantRight(t, d, false)
		d[i] = was
	}
	wantRight(t, d, true)
	wantNames(t, d, slowNames(d)...)
	wantFind(t, d, letters(1<<16-1))
	wantFind(t, d, letters(1<<16))
	for _, a := range []api.Ty{integer, unknown, empty} {
		wantRight(t, []api.Bind{bind("X", deep(1<<16-1, a)), bind("Y", top)}, true)
	}
	for _, a := range []api.Ty{variable("X"), seal(0), {}, variable("x")} {
		wantRight(t, []api.Bind{bind("X", deep(1<<16-1, a)), bind("Y", top)}, false)
	}
}

// Find: the first binding counts, whatever it and the others are; the names are held against each other byte by byte.
func TestFind(t *testing.T) {
	d := binds(t, "X: Int; Y: Top; X: Bool; Z: X -> Q3; Y: ?; X: {}")
	for s, want := range map[string]string{"X": "Int", "Y": "Top", "Z": "X -> Q3"} {
		if got, ok := bounds.Find(d, s); !ok || exact(got) != exact(parse(t, want)) {
			t.Errorf("Find of %s: %v, %v", s, got, ok)
		}
	}
	for _, s := range []string{"", "x", "X ", " X", "XX", "X\x00", "\xff", "A", "Int"} {
		if got, ok := bounds.Find(d, s); ok || exact(got) != exact(api.Ty{}) {
			t.Errorf("Find of %q: %v, %v", s, got, ok)
		}
		if got, ok := bounds.Find(nil, s); ok || exact(got) != exact(api.Ty{}) {
			t.Errorf("Find of %q in nothing: %v, %v", s, got, ok)
		}
	}
	odd := []api.Bind{bind("x", variable("y")), bind("", seal(-1)), bind("\xff", integer), bind("Int", api.Ty{}), bind("", top), bind("X", api.Ty{K: 44, N: 5, Name: "q", Labels: []string{"b", "a"}, Args: []api.Ty{{}}})}
	for _, s := range []string{"x", "", "\xff", "\xfe", "\ufffd", "Int", "X", "Y"} {
		wantFind(t, odd, s)
	}
	// A binding to the zero type is found.
	if got, ok := bounds.Find(odd, "Int"); !ok || exact(got) != exact(api.Ty{}) {
		t.Errorf("Find of a zero type: %v, %v", got, ok)
	}
}

// Names: all of them in order, however often and whatever they are.
func TestNames(t *testing.T) {
	wantNames(t, nil)
	wantNames(t, []api.Bind{})
	wantNames(t, binds(t, "X: Int"), "X")
	wantNames(t, binds(t, "Z: Int; X: Top; Y: ?; X1: Z"), "Z", "X", "Y", "X1")
	wantNames(t, binds(t, "X: Int; X: Int; A: Int; X: Bool"), "X", "X", "A", "X")
	wantNames(t, []api.Bind{bind("", top), bind("x", api.Ty{}), bind("", seal(-1)), bind("\xff", top), bind("Int", top)}, "", "x", "", "\xff", "Int")
}

// P9.2: Up of a variable goes one step, to the first binding; of anything else, and of a variable without one, it stays.
func TestUp(t *testing.T) {
	d := binds(t, "X: Y; Y: X -> Int; X: Int; Z: Z; A: Q7")
	for s, want := range map[string]string{"X": "Y", "Y": "X -> Int", "Z": "Z", "A": "Q7"} {
		if got, ok := bounds.Up(d, variable(s)); !ok || exact(got) != exact(parse(t, want)) {
			t.Errorf("Up of %s: %v, %v", s, got, ok)
		}
	}
	for _, s := range []string{"B", "X1", "Xx", "Int", "Bool", "String", "Top", "?", "{}", "Q7", "X -> X", "{a: X}", "{a: X -> Y, b: Z}"} {
		a := parse(t, s)
		if got, ok := bounds.Up(d, a); ok || exact(got) != exact(a) {
			t.Errorf("Up of %s: %v, %v", s, got, ok)
		}
		if got, ok := bounds.Up(nil, a); ok || exact(got) != exact(a) {
			t.Errorf("Up of %s with nothing: %v, %v", s, got, ok)
		}
	}
	for _, a := range slices.Concat(wrong(), fine(t)) {
		for _, b := range around(a) {
			wantUp(t, d, b)
			wantUp(t, nil, b)
			wantUp(t, []api.Bind{bind("Q", top), bind("X", b), bind("Y", top), bind("X", top)}, variable("X"))
		}
	}
}

// P9.2: only a TVar goes up, whatever its other fields are; a name that another kind has counts for nothing.
func TestUpKinds(t *testing.T) {
	d := []api.Bind{bind("X", boolean), bind("", integer), bind("x", top), bind("\xff", unknown)}
	for k := -3; k < 14; k++ {
		for _, s := range []string{"X", "", "x", "\xff", "\xfe", "Y"} {
			for _, a := range []api.Ty{{K: k, Name: s}, {K: k, N: 4, Name: s, Labels: []string{"b", "a"}, Args: []api.Ty{variable("X"), {}}}} {
				wantUp(t, d, a)
			}
		}
	}
	wantUp(t, d, api.Ty{K: math.MaxInt, Name: "X"})
	wantUp(t, d, api.Ty{K: math.MinInt, Name: "X"})
	wantUp(t, nil, variable(""))
}

// In: variables at each place of a type, bound or not.
func TestIn(t *testing.T) {
	d := binds(t, "X: Int; Y: Top")
	for _, a := range around(variable("X")) {
		wantIn(t, d, a, true)
		wantIn(t, d[:1], a, true)
		wantIn(t, d[1:], a, false)
		wantIn(t, nil, a, false)
		for _, b := range around(variable("Y")) {
			wantIn(t, d, fun(a, b), true)
			wantIn(t, d[:1], fun(a, b), false)
			wantIn(t, d[1:], fun(a, b), false)
		}
		for _, b := range around(variable("Z")) {
			wantIn(t, d, fun(a, b), false)
			wantIn(t, d, rec("a b c", a, b, a), false)
		}
	}
	for _, a := range fine(t) {
		for _, b := range around(a) {
			wantIn(t, nil, b, true)
			wantIn(t, d, b, true)
		}
	}
	wantIn(t, d, fun(seal(3), rec("a", seal(-1))), true)
}

// In: bounds and types that are not valid. Only the names of TVars are variables, also within what a variable should
// not have; what occurs in a bound is none of those that are bound.
func TestInOdd(t *testing.T) {
	odd := []api.Bind{bind("X", variable("Y")), bind("x", api.Ty{}), bind("", top), bind("X", top), bind("Int", fun(variable("A"), top))}
	for _, s := range []string{"X", "x", "", "Int"} {
		for _, a := range around(variable(s)) {
			wantIn(t, odd, a, true)
		}
	}
	for _, s := range []string{"Y", "A", "y", "\xff", "XX", "Top"} {
		for _, a := range around(variable(s)) {
			wantIn(t, odd, a, false)
		}
	}
	wantIn(t, odd, api.Ty{K: api.TVar, Name: "X", N: 3, Args: []api.Ty{variable("x")}}, true)
	wantIn(t, odd, api.Ty{K: api.TVar, Name: "X", Args: []api.Ty{variable("Y")}}, false)
	wantIn(t, odd, api.Ty{K: 77, Name: "Y", Args: []api.Ty{{Name: "Y"}, {K: api.TSeal, Name: "Y", N: -4}, {K: api.TInt, Name: "A", Labels: []string{"A"}}}}, true)
	wantIn(t, nil, api.Ty{K: 77, Args: []api.Ty{{}, {K: -1, Args: []api.Ty{variable("X")}}}}, false)
	wantIn(t, nil, api.Ty{}, true)
	wantIn(t, nil, variable(""), false)
	for _, a := range wrong() {
		for _, b := range around(a) {
			wantIn(t, odd, b, slowIn(odd, b))
			wantIn(t, nil, b, slowIn(nil, b))
		}
	}
}

// In of many bindings and as many variables, and of types that are nested deeply.
func TestInLarge(t *testing.T) {
	wide := api.Ty{K: api.TRec}
	var d []api.Bind
	for i := range 1 << 18 {
		d = append(d, bind(letters(i), top))
		wide.Args = append(wide.Args, variable(letters(1<<18-1-i)))
	}
	for i, want := range []bool{true, false} {
		if got := bounds.In(d[i:], wide); got != want {
			t.Errorf("In of many variables, %d left out: %v", i, got)
		}
		if got := bounds.In(d[:1<<18-i], wide); got != want {
			t.Errorf("In of many variables, the last %d left out: %v", i, got)
		}
	}
	wantIn(t, binds(t, "X: Int"), deep(1<<16-1, variable("X")), true)
	wantIn(t, binds(t, "X: Int"), deep(1<<16-1, variable("Y")), false)
}

// P9.3: for valid bounds, each variable that they bind goes up to a type without variables and seals, which stays as it is.
func TestProperties(t *testing.T) {
	l := fine(t)
	for _, a := range l {
		for _, b := range l {
			d := []api.Bind{bind("X", a), bind("Y", b), bind("Z1", fun(a, rec("a", b)))}
			wantRight(t, d, true)
			for i, s := range bounds.Names(d) {
				up, ok := bounds.Up(d, variable(s))
				if !ok || exact(up) != exact(d[i].Type) || !bounds.In(nil, up) || !slowBound(up) {
					t.Errorf("Up(%s, %s) = %s, %v", short(d), s, short(up), ok)
				}
				if again, ok := bounds.Up(d, up); ok || exact(again) != exact(up) {
					t.Errorf("Up of %s, which is above %s: %s, %v", short(up), s, short(again), ok)
				}
			}
			wantUp(t, d, variable("Z"))
		}
	}
}

// random is a type of at most that depth, of leaves from a choice.
func random(r *rand.Rand, depth int, leaves []api.Ty) api.Ty {
	if depth > 1 && r.Intn(3) > 0 {
		if r.Intn(2) == 0 {
			return fun(random(r, depth-1, leaves), random(r, depth-1, leaves))
		}
		a := api.Ty{K: api.TRec}
		for _, s := range []string{"a", "b", "c1"} {
			if r.Intn(2) == 0 {
				a.Labels, a.Args = append(a.Labels, s), append(a.Args, random(r, depth-1, leaves))
			}
		}
		return a
	}
	return leaves[r.Intn(len(leaves))]
}

// All calls on random bindings and types against the definitions; many of the bindings are valid, and many are not.
func TestRandom(t *testing.T) {
	r := rand.New(rand.NewSource(9))
	names := []string{"X", "Y", "Z", "X1", "Xx", "XX", "Abcdefgh", "A"}
	odd := []string{"", "x", "Int", "X", "Abcdefghi", "\xff", "Y"}
	closed := fine(t)
	open := append(slices.Clone(closed), variable("X"), variable("Y"), variable("Zz"), variable("Abcdefgh"))
	right := 0
	for range 8000 {
		var d []api.Bind
		for _, i := range r.Perm(len(names))[:r.Intn(6)] {
			d = append(d, bind(names[i], random(r, 4, closed)))
		}
		for range r.Intn(3) {
			if len(d) == 0 {
				break
			}
			i := r.Intn(len(d))
			switch r.Intn(4) {
			case 0:
				d[i].Name = odd[r.Intn(len(odd))]
			case 1:
				d[i].Name = d[r.Intn(len(d))].Name
			case 2:
				d[i].Type = random(r, 3, open)
			case 3:
				d[i].Type = random(r, 2, wrong())
			}
		}
		if slowRight(d) {
			right++
		}
		wantSlow(t, d, random(r, 5, open))
		wantSlow(t, d, random(r, 2, wrong()))
	}
	if right < 2000 || right > 6000 {
		t.Errorf("%d of the random bindings are right", right)
	}
}

// Right of all lists of up to three bindings, from a choice of names and types.
func TestSmall(t *testing.T) {
	var choice []api.Bind
	for _, s := range []string{"X", "Y", "x", ""} {
		for _, a := range []api.Ty{integer, unknown, variable("X"), seal(0), {}} {
			choice = append(choice, bind(s, a))
		}
	}
	var all func(d []api.Bind, n int)
	all = func(d []api.Bind, n int) {
		wantSlow(t, d, fun(variable("X"), variable("Y")))
		for _, b := range choice {
			if n > 0 {
				all(append(d[:len(d):len(d)], b), n-1)
			}
		}
	}
	all(nil, 3)
}
