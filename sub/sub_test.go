package sub_test

import (
	"fmt"
	"math"
	"math/rand"
	"regexp"
	"slices"
	"strings"
	"testing"

	"limbeck/api"
	"limbeck/sub"
	"limbeck/tyread"
)

var (
	integer = api.Ty{K: api.TInt}
	boolean = api.Ty{K: api.TBool}
	str     = api.Ty{K: api.TStr}
	top     = api.Ty{K: api.TTop}
	unknown = api.Ty{K: api.TDyn}
	empty   = api.Ty{K: api.TRec}
)

func variable(s string) api.Ty { return api.Ty{K: api.TVar, Name: s} }

func seal(n int) api.Ty { return api.Ty{K: api.TSeal, N: n} }

func fun(a, b api.Ty) api.Ty { return api.Ty{K: api.TFun, Args: []api.Ty{a, b}} }

func rec(labels string, args ...api.Ty) api.Ty {
	return api.Ty{K: api.TRec, Labels: strings.Fields(labels), Args: args}
}

func bind(s string, a api.Ty) api.Bind { return api.Bind{Name: s, Type: a} }

// deep is that type within so many parts, of all sorts by turns.
func deep(n int, a api.Ty) api.Ty {
	for i := range n {
		switch i % 4 {
		case 0:
			a = fun(top, a)
		case 1:
			a = rec("a b", a, integer)
		case 2:
			a = fun(a, unknown)
		case 3:
			a = rec("a b", boolean, a)
		}
	}
	return a
}

// turned reports whether within so many parts the order is turned round.
func turned(n int) bool { return (n+1)/4%2 == 1 }

// letters is a type variable that no other number has.
func letters(i int) string { return "V" + fmt.Sprintf("%07x", i) }

// parse is the type of a text, in which Q7 stands for the seal 7.
func parse(t *testing.T, s string) api.Ty {
	t.Helper()
	a, err := tyread.Parse(s)
	if err != nil {
		t.Fatalf("%q is no type", s)
	}
	var walk func(a api.Ty) api.Ty
	walk = func(a api.Ty) api.Ty {
		n := 0
		if _, err := fmt.Sscanf(a.Name, "Q%d", &n); err == nil {
			return seal(n)
		}
		for i := range a.Args { // this type is nobody else's yet
			a.Args[i] = walk(a.Args[i])
		}
		return a
	}
	return walk(a)
}

// types is the types that a text gives, as in "Int; X -> X".
func types(t *testing.T, s string) []api.Ty {
	t.Helper()
	var l []api.Ty
	for _, x := range strings.Split(s, ";") {
		if strings.TrimSpace(x) != "" {
			l = append(l, parse(t, x))
		}
	}
	return l
}

// binds is the bindings that a text gives, as in "X: Int; Y: X -> X".
func binds(t *testing.T, s string) []api.Bind {
	t.Helper()
	var d []api.Bind
	for _, x := range strings.Split(s, ";") {
		if name, text, ok := strings.Cut(x, ":"); ok {
			d = append(d, bind(strings.TrimSpace(name), parse(t, text)))
		}
	}
	return d
}

// list has the nodes of a type in order, each one before those below it.
func list(a api.Ty) []api.Ty {
	var out []api.Ty
	for rest := []api.Ty{a}; len(rest) > 0; {
		x := rest[len(rest)-1]
		rest = rest[:len(rest)-1]
		out = append(out, x)
		for i := range x.Args {
			rest = append(rest, x.Args[len(x.Args)-1-i])
		}
	}
	return out
}

// exact is a text that no other type has.
func exact(a api.Ty) string {
	var s strings.Builder
	for _, x := range list(a) {
		fmt.Fprintf(&s, "%d %d %q %q %d;", x.K, x.N, x.Name, x.Labels, len(x.Args))
	}
	return s.String()
}

// exactly is a text that no other bindings and types have.
func exactly(d []api.Bind, lists ...[]api.Ty) string {
	var s strings.Builder
	for _, b := range d {
		fmt.Fprintf(&s, "%q=%s|", b.Name, exact(b.Type))
	}
	for _, l := range lists {
		fmt.Fprintf(&s, "%d:", len(l))
		for _, a := range l {
			s.WriteString(exact(a) + "|")
		}
	}
	return s.String()
}

// short writes a value for a message: a type may be great.
func short(x any) string {
	s := fmt.Sprint(x)
	return s[:min(len(s), 300)]
}

var (
	bindable = regexp.MustCompile(`^[A-Z][a-zA-Z0-9]{0,7}$`)
	typeWord = regexp.MustCompile(`^(Int|Bool|String|Top)$`)
	plain    = regexp.MustCompile(`^[a-z][a-z0-9]{0,7}$`)
	reserved = regexp.MustCompile(`^(let|in|if|then|else|fn|call|def|true|false)$`)
)

func slowVar(s string) bool { return bindable.MatchString(s) && !typeWord.MatchString(s) }

// slowType is the document's definition of a valid type, node by node; with open, variables and seals may occur.
func slowType(a api.Ty, open bool) bool {
	for _, x := range list(a) {
		for i, s := range x.Labels {
			if !plain.MatchString(s) || reserved.MatchString(s) || i > 0 && x.Labels[i-1] >= s {
				return false
			}
		}
		leaf := len(x.Labels) == 0 && len(x.Args) == 0
		switch {
		case x.K >= 1 && x.K <= 5 && leaf && x.N == 0 && x.Name == "":
		case open && x.K == 6 && leaf && x.N == 0 && slowVar(x.Name):
		case open && x.K == 9 && leaf && x.N >= 0 && x.N <= 1<<30 && x.Name == "":
		case x.K == 7 && len(x.Labels) == 0 && len(x.Args) == 2 && x.N == 0 && x.Name == "":
		case x.K == 8 && len(x.Labels) == len(x.Args) && x.N == 0 && x.Name == "":
		default:
			return false
		}
	}
	return true
}

func slowRight(d []api.Bind) bool {
	var names []string
	for _, b := range d {
		if !slowVar(b.Name) || !slowType(b.Type, false) {
			return false
		}
		names = append(names, b.Name)
	}
	slices.Sort(names)
	return len(slices.Compact(names)) == len(d)
}

// slowFields has the type of each label.
func slowFields(a api.Ty) map[string]api.Ty {
	m := map[string]api.Ty{}
	for i, s := range a.Labels {
		m[s] = a.Args[i]
	}
	return m
}

// slowIs keeps the pairs that are still to be held against each other, lower before upper, and takes the rules in the
// document's order.
func slowIs(d []api.Bind, a, b api.Ty) bool {
	if !slowRight(d) || !slowType(a, true) || !slowType(b, true) {
		return false
	}
	bound := map[string]api.Ty{}
	for _, x := range d {
		bound[x.Name] = x.Type
	}
	for rest := [][2]api.Ty{{a, b}}; len(rest) > 0; {
		low, high := rest[0][0], rest[0][1]
		rest = rest[1:]
		up, bounded := bound[low.Name]
		switch {
		case high.K == 4:
		case low.K == 6 && high.K == 6 && low.Name == high.Name:
		case low.K == 6 && !bounded:
			return false
		case low.K == 6:
			rest = append(rest, [2]api.Ty{up, high})
		case low.K == 7 && high.K == 7:
			rest = append(rest, [2]api.Ty{high.Args[0], low.Args[0]}, [2]api.Ty{low.Args[1], high.Args[1]})
		case low.K == 8 && high.K == 8:
			fields := slowFields(low)
			for s, x := range slowFields(high) {
				y, ok := fields[s]
				if !ok {
					return false
				}
				rest = append(rest, [2]api.Ty{y, x})
			}
		case low.K != high.K || low.N != high.N || low.Name != high.Name || low.K >= 7 && low.K <= 8:
			return false
		}
	}
	return true
}

// wantIs holds Is against what is wanted and against the definition, and All of lists with these types beside it.
func wantIs(t *testing.T, d []api.Bind, a, b api.Ty, want bool) {
	t.Helper()
	before := exactly(d, []api.Ty{a, b})
	if got := sub.Is(d, a, b); got != want || slowIs(d, a, b) != want {
		t.Errorf("Is(%s, %s, %s) = %v, by the definition %v", short(d), short(a), short(b), got, slowIs(d, a, b))
	}
	if got := sub.All(d, []api.Ty{a}, []api.Ty{b}); got != want {
		t.Errorf("All(%s, %s, %s) = %v", short(d), short(a), short(b), got)
	}
	if exactly(d, []api.Ty{a, b}) != before {
		t.Errorf("Is has changed its arguments: %s, %s, %s", short(d), short(a), short(b))
	}
}

// wantAll does the same for lists.
func wantAll(t *testing.T, d []api.Bind, a, b []api.Ty, want bool) {
	t.Helper()
	before := exactly(d, a, b)
	if got := sub.All(d, a, b); got != want {
		t.Errorf("All(%s, %s, %s) = %v", short(d), short(a), short(b), got)
	}
	if exactly(d, a, b) != before {
		t.Errorf("All has changed its arguments: %s, %s, %s", short(d), short(a), short(b))
	}
}

// below holds each pair of a text, as in "Int < Top; {} < {}"; they are wanted this way, and not the other way round
// unless both types are the same.
func below(t *testing.T, d []api.Bind, text string) {
	t.Helper()
	for _, x := range strings.Split(text, ";") {
		low, high, _ := strings.Cut(x, "<")
		a, b := parse(t, low), parse(t, high)
		wantIs(t, d, a, b, true)
		wantIs(t, d, b, a, exact(a) == exact(b))
	}
}

// apart holds each pair of a text, as in "Int | Bool": neither is below the other one.
func apart(t *testing.T, d []api.Bind, text string) {
	t.Helper()
	for _, x := range strings.Split(text, ";") {
		left, right, _ := strings.Cut(x, "|")
		a, b := parse(t, left), parse(t, right)
		wantIs(t, d, a, b, false)
		wantIs(t, d, b, a, false)
	}
}

// P10.1: the document's examples, here and among those of the whole.
func TestExamples(t *testing.T) {
	below(t, nil, "{a: Int, b: Bool} < {a: Int}; {a: Int, b: Bool} < {a: Top}; ? < ?; ? < Top; Q3 < Q3; Q3 < Top")
	below(t, binds(t, "X: {a: Int}"), "X < {a: Int}")
	apart(t, nil, "? | Int; Q3 | Q4; Q3 | ?; Q3 | Int")
}

// P10.1: what has no parts is below itself and Top only.
func TestBare(t *testing.T) {
	for _, d := range [][]api.Bind{nil, {}, binds(t, "X: Int; Y: ?; Z: Top")} {
		l := append(types(t, "Int; Bool; String; ?; {}; Int -> Int; Q0; Q1; A; B; {a: Int}"), seal(1<<30), seal(1<<30-1))
		for i, a := range l {
			wantIs(t, d, a, top, true)
			wantIs(t, d, top, a, false)
			for j, b := range l {
				wantIs(t, d, a, b, i == j || i == 10 && j == 4)
			}
		}
		wantIs(t, d, top, top, true)
	}
}

// P10.1: a variable is below itself and what its bound is below, and nothing but itself is below it.
func TestVariables(t *testing.T) {
	d := binds(t, "A: Int; B: Int; C: {a: Int, b: Bool}; D: {a: Int}; E: Top; F: ?; G: Top -> Int; Q: {}; X1: {c: {a: Int}}; Zz: Int -> {}")
	below(t, d, "A < A; A < Int; B < Int; A < Top; C < {a: Int, b: Bool}; C < {a: Int}; C < {b: Bool}; C < {}; C < {a: Top}; C < Top")
	below(t, d, "D < {a: Int}; D < {}; E < Top; E < E; F < ?; F < F; F < Top; G < Top -> Int; G < Int -> Top; G < A -> Int; Q < {}; Q < Top")
	below(t, d, "X1 < {c: {}}; X1 < {c: {a: Top}}; X1 < {}; Zz < A -> Top; Zz < B -> {}")
	apart(t, d, "A | B; A | Bool; A | ?; C | D; C | {c: Int}; C | {a: Bool}; D | {b: Bool}; E | ?; E | F; F | Int; F | {}; G | Zz; G | Int; Q | D; X1 | {c: {b: Int}}; Zz | Int -> Int; Zz | Bool -> {}")
	// A variable without a bound.
	below(t, d, "X < X; X < Top; Int -> X < Int -> Top; {a: X} < {a: X}; {a: X, b: X} < {b: X}")
	apart(t, d, "X | Int; X | ?; X | Y; X | A; X | E; X | {}; X | Int -> Int; X | Q0; {a: X} | {a: Int}")
	below(t, nil, "A < A; A < Top; A -> A < A -> Top")
	apart(t, nil, "A | B; A | Int; A | {}")
	// Variables within types, on either side of functions.
	below(t, d, "A -> A < A -> Int; Int -> A < A -> A; {a: A} < {a: Int}; {a: C} < {a: {a: Int}}; (A -> A) -> Int < (Int -> A) -> Int; (A -> Int) -> A < (Int -> A) -> Int; Int -> A < A -> Int")
	apart(t, d, "A -> A | Int -> Int; A -> A | B -> B; {a: A} | {a: B}; {a: C} | {a: D}; C -> C | {a: Int} -> {a: Int}")
	// Names are held against each other byte by byte.
	e := binds(t, "X: Int; XX: Bool; Xx: String; X1: ?")
	below(t, e, "X < Int; XX < Bool; Xx < String; X1 < ?")
	apart(t, e, "X | Bool; XX | Int; Xx | ?; X1 | String; X | XX; Xx | XX; X1 | X; Xxx | String; Xa | Int")
}

// P10.1: functions take more and give less.
func TestFunctions(t *testing.T) {
	below(t, nil, "Int -> Int < Int -> Int; Int -> Int < Int -> Top; Top -> Int < Int -> Int; Top -> Int < Int -> Top; Int -> Bool < Top; ? -> ? < ? -> ?; ? -> ? < ? -> Top; Top -> ? < ? -> ?")
	below(t, nil, "{} -> Int < {a: Int} -> Int; Int -> {a: Int} < Int -> {}; Int -> Int -> Int < Int -> Int -> Top; Int -> Top -> Int < Int -> Bool -> Int")
	below(t, nil, "(Int -> Int) -> Int < (Top -> Int) -> Int; (Int -> Top) -> Int < (Int -> Bool) -> Int; ((Top -> Int) -> Int) -> Int < ((Int -> Int) -> Int) -> Int")
	below(t, nil, "Top -> Int -> Top < Bool -> Int -> Top; Top -> Top < Q1 -> Top; Q1 -> Q1 < Q1 -> Top")
	apart(t, nil, "Int -> Int | Bool -> Int; Int -> Int | Int -> Bool; Int -> Int | Top -> Top; Int -> Bool | Bool -> Int; Int -> ? | Int -> Int; ? -> Int | Int -> Int; ? -> ? | Top -> Top")
	apart(t, nil, "Int -> Int | Int; Int -> Int | {}; Int -> Int | ?; Int -> Int | {a: Int}; Int -> Int -> Int | (Int -> Int) -> Int; Int -> Int | Int -> Int -> Int; Q1 -> Int | Q2 -> Int; X -> Int | Y -> Int")
	apart(t, nil, "{a: Int} -> {a: Int} | {} -> {}; (Int -> Top) -> Int | (Top -> Int) -> Top -> Int")
}

// P10.1: a record may have more fields, anywhere, and lower types in them.
func TestRecords(t *testing.T) {
	below(t, nil, "{} < {}; {} < Top; {a: Int} < {}; {a: Int} < {a: Int}; {a: Int} < {a: Top}; {a: ?} < {a: ?}; {a: ?} < {a: Top}; {a: {a: Int}} < {a: {}}")
	below(t, nil, "{a: Int, b: Bool} < {a: Int}; {a: Int, b: Bool} < {b: Bool}; {a: Int, b: Bool} < {}; {a: Int, b: Bool} < {b: Top}; {a: Int, b: Bool} < {a: Top, b: Top}; {a: Int, b: Int} < {a: Top}")
	below(t, nil, "{a: Top -> Int} < {a: Int -> Top}; {a: Int -> {b: Int}, b: ?} < {a: Int -> {}}; {a: Int, a0: Bool, aa: String} < {aa: String}; {a: Int, a0: Bool, aa: String} < {a0: Bool}")
	apart(t, nil, "{a: Int} | {b: Int}; {a: Int} | {a: Bool}; {a: Int} | {a: ?}; {a: Int, b: Int} | {a: Bool}; {a: Int, b: Int} | {b: Bool}; {a: Int, b: Bool} | {a: Bool, b: Int}; {a: Int, b: Bool} | {a: Top, c: Top}")
	apart(t, nil, "{} | Int; {} | ?; {} | Int -> Int; {a: Int} | Int; {a: Int} | ?; {a: Int} | Q1; {a: Int} | Int -> Int; {a: {}} | {a: Int}; {a: {a: Int}} | {a: {b: Int}}; {a: Q1} | {a: Q2}")
	apart(t, nil, "{a: Int} | {a0: Int}; {a: Int} | {aa: Int}; {a0: Int} | {aa: Int}; {a: Int, b: {}} | {b: {a: Int}}")
}

// P10.1: all choices of up to six fields on both sides, and one field of another type.
func TestRecordChoices(t *testing.T) {
	labels := strings.Fields("a a0 b c1 c2 z")
	own := types(t, "Int; {a: Int}; ?; Int -> Int; Bool; Q4")
	higher := types(t, "Top; {}; Top; Int -> Top; Bool; Top")
	other := types(t, "Bool; {b: Int}; Int; Bool -> Top; ?; Q5")
	choose := func(set int, from []api.Ty) api.Ty {
		a := api.Ty{K: api.TRec}
		for i := range labels {
			if set>>i&1 == 1 {
				a.Labels, a.Args = append(a.Labels, labels[i]), append(a.Args, from[i])
			}
		}
		return a
	}
	for x := range 64 {
		for y := range 64 {
			within := x|y == x
			wantIs(t, nil, choose(x, own), choose(y, own), within)
			wantIs(t, nil, choose(x, own), choose(y, higher), within)
			for i := range labels {
				mixed := slices.Clone(higher)
				mixed[i] = other[i]
				wantIs(t, nil, choose(x, own), choose(y, mixed), within && y>>i&1 == 0)
				mixed[i] = own[i]
				wantIs(t, nil, choose(x, own), choose(y, mixed), within)
			}
		}
	}
}

// wrong is types that are not valid.
func wrong() []api.Ty {
	l := []api.Ty{
		{}, {K: -1}, {K: 10}, {K: math.MaxInt}, {K: math.MinInt}, seal(-1), seal(1<<30 + 1), seal(math.MinInt), seal(math.MaxInt), {K: api.TSeal, Name: "X"},
		variable("x"), variable(""), variable("Int"), variable("Abcdefghi"), {K: api.TVar, Name: "X", N: 1}, {K: api.TVar, Name: "X", Args: []api.Ty{integer}},
		{K: api.TFun}, {K: api.TFun, Args: []api.Ty{top}}, {K: api.TFun, Args: []api.Ty{top, top, top}}, {K: api.TFun, N: 1, Args: []api.Ty{top, top}},
		rec("b a", top, top), rec("a a", top, top), rec("a"), rec("", top), rec("a b", top), rec("a", top, top), rec("X", top), rec("in", top), rec("abcdefghi", top),
		{K: api.TRec, Name: "a"}, {K: api.TRec, N: 3}, {K: api.TRec, Labels: []string{""}, Args: []api.Ty{top}},
	}
	for k := api.TInt; k <= api.TDyn; k++ {
		l = append(l, api.Ty{K: k, N: 1}, api.Ty{K: k, Name: "X"}, api.Ty{K: k, Labels: []string{"a"}}, api.Ty{K: k, Args: []api.Ty{top}})
	}
	return l
}

// around is that type, and types that have it in some place.
func around(a api.Ty) []api.Ty {
	return []api.Ty{a, fun(a, top), fun(top, a), rec("a", a), rec("a b c", top, a, unknown), rec("a b c", top, str, a),
		fun(rec("x", fun(boolean, a)), rec("y", integer)), deep(9, a)}
}

// P10.1: with a type that is not valid nothing holds, on either side, at any place: not below Top, nor beside itself, nor
// in a part that no rule looks at.
func TestWrong(t *testing.T) {
	d := binds(t, "X: Int; Y: {a: Int}")
	for _, x := range wrong() {
		for _, a := range around(x) {
			for _, e := range [][]api.Bind{nil, d} {
				wantIs(t, e, a, a, false)
				wantIs(t, e, a, top, false)
				wantIs(t, e, rec("a b", integer, a), rec("a", integer), false)
				wantIs(t, e, rec("a b", a, integer), empty, false)
				wantIs(t, e, fun(top, a), fun(top, top), false)
				wantIs(t, e, fun(integer, integer), fun(a, top), false)
				wantIs(t, e, fun(top, integer), fun(rec("a b", a, top), top), false)
				for _, b := range types(t, "Int; Top; ?; X; Y; Q0; {}; Int -> Int; {a: Top}; Top -> Top") {
					wantIs(t, e, a, b, false)
					wantIs(t, e, b, a, false)
				}
			}
		}
	}
	// Empty lists are as good as none.
	blank := func(k int) api.Ty { return api.Ty{K: k, Labels: []string{}, Args: []api.Ty{}} }
	wantIs(t, []api.Bind{}, blank(api.TInt), integer, true)
	wantIs(t, []api.Bind{}, integer, blank(api.TInt), true)
	wantIs(t, nil, fun(empty, blank(api.TDyn)), fun(blank(api.TRec), unknown), true)
	wantIs(t, nil, rec("a", integer), blank(api.TRec), true)
	wantIs(t, []api.Bind{bind("X", blank(api.TRec))}, variable("X"), empty, true)
}

// P10.1: with bounds that are not valid nothing holds, whether or not the types have to do with them.
func TestWrongBounds(t *testing.T) {
	closed := append(wrong(), types(t, "X; Y; Z; Q0; Q7")...)
	var bad [][]api.Bind
	for _, x := range closed {
		for _, a := range around(x) {
			bad = append(bad, []api.Bind{bind("X", a)}, []api.Bind{bind("X", integer), bind("Y", a)}, []api.Bind{bind("X", a), bind("Y", integer)})
		}
	}
	for _, s := range []string{"", "x", "Int", "Top", "Abcdefghi", "X ", "X_", "\xff"} {
		bad = append(bad, []api.Bind{bind(s, integer)}, []api.Bind{bind("X", integer), bind(s, integer)}, []api.Bind{bind(s, integer), bind("X", integer)})
	}
	bad = append(bad, binds(t, "X: Int; X: Int"), binds(t, "X: Int; Y: Int; X: Top"), binds(t, "Y: Int; Y: Int; X: Int"))
	for _, d := range bad {
		for _, x := range [][2]api.Ty{{integer, integer}, {integer, top}, {top, top}, {variable("X"), integer}, {variable("X"), variable("X")}, {variable("X"), top}, {empty, empty}, {boolean, integer}} {
			wantIs(t, d, x[0], x[1], false)
		}
	}
}

// All: both lists are as long, and each pair holds, at each place.
func TestAll(t *testing.T) {
	d := binds(t, "X: Int; Y: {a: Int}")
	low := types(t, "Int; X; Y; {a: Int, b: Bool}; Top -> Int; ?; Q5")
	high := types(t, "Top; Int; {}; {a: Top}; Bool -> Int; ?; Q5")
	bad := types(t, "Bool; Y; {b: Int}; {a: Bool}; Top -> Bool; Int; Q6")
	for n := range len(low) + 1 {
		wantAll(t, d, low[:n], high[:n], true)
		wantAll(t, d, low[:n], low[:n], true)
		for i := range n {
			for _, x := range append([]api.Ty{bad[i]}, wrong()...) {
				wrongly := slices.Clone(high)
				wrongly[i] = x
				wantAll(t, d, low[:n], wrongly[:n], false)
				wantAll(t, d, low[:i], wrongly[:i], true)
			}
			for _, x := range wrong() {
				wrongly := slices.Clone(low)
				wrongly[i] = x
				wantAll(t, d, wrongly[:n], high[:n], false)
			}
			wantAll(t, d, low[:n], high[:i], false)
			wantAll(t, d, low[:i], high[:n], false)
		}
	}
	wantAll(t, d, high, low, false)
	wantAll(t, nil, low, high, false) // X has no bound there
	wantAll(t, nil, low[3:], high[3:], true)
}

// All of empty lists: there is no element for which anything would have to hold.
func TestAllEmpty(t *testing.T) {
	for _, d := range [][]api.Bind{nil, {}, binds(t, "X: Int"), binds(t, "X: X"), binds(t, "X: Int; X: Int"), {bind("", api.Ty{})}} {
		wantAll(t, d, nil, nil, true)
		wantAll(t, d, []api.Ty{}, nil, true)
		wantAll(t, d, nil, []api.Ty{}, true)
		wantAll(t, d, []api.Ty{integer}, nil, false)
		wantAll(t, d, nil, []api.Ty{top}, false)
		wantAll(t, d, []api.Ty{integer}, []api.Ty{integer}, slowRight(d))
		wantAll(t, d, []api.Ty{integer, boolean}, []api.Ty{top, top}, slowRight(d))
	}
}

// Types that are nested very deeply, with what decides at the bottom.
func TestDeep(t *testing.T) {
	bound := rec("a", integer)
	d := []api.Bind{bind("X", bound)}
	x := variable("X")
	for n := range 4 {
		for _, n := range []int{n, n + 4, n + 8, 1<<16 - 4 - n} {
			wantDeep(t, d, deep(n, x), deep(n, bound), !turned(n))
			wantDeep(t, d, deep(n, bound), deep(n, x), turned(n))
			wantDeep(t, d, deep(n, x), deep(n, x), true)
			wantDeep(t, nil, deep(n, x), deep(n, bound), false)
			wantDeep(t, d, deep(n, x), deep(n+4, x), false)
			wantDeep(t, d, deep(n, api.Ty{}), top, false)
		}
	}
	low := deep(1<<15, x)
	wantDeep(t, []api.Bind{bind("X", low)}, x, top, false)
	high := deep(1<<15, bound)
	wantDeep(t, []api.Bind{bind("X", high)}, deep(1<<15, x), deep(1<<15, high), true)
	wantDeep(t, []api.Bind{bind("X", high)}, deep(1<<15, high), deep(1<<15, x), false)
}

// wantDeep writes no types: they are too great for the message.
func wantDeep(t *testing.T, d []api.Bind, a, b api.Ty, want bool) {
	t.Helper()
	if got := sub.Is(d, a, b); got != want || sub.All(d, []api.Ty{a, a}, []api.Ty{b, top}) != want {
		t.Errorf("Is of types of depth: %v", got)
	}
}

// wideRecord is a record of that many fields, from a label on that its number tells.
func wideRecord(from, n int, a api.Ty) api.Ty {
	w := api.Ty{K: api.TRec}
	for i := range n {
		w.Labels = append(w.Labels, fmt.Sprintf("v%07x", from+i))
		w.Args = append(w.Args, a)
	}
	return w
}

// Records of many fields, and as many variables and bindings.
func TestWide(t *testing.T) {
	const n = 1 << 18
	w := wideRecord(0, n, integer)
	for _, x := range []struct {
		low, high api.Ty
		want      bool
	}{
		{w, w, true}, {w, wideRecord(1, n-1, top), true}, {w, wideRecord(0, n-1, integer), true}, {w, wideRecord(n-1, 1, integer), true},
		{w, wideRecord(1, n, integer), false}, {wideRecord(1, n, integer), w, false}, {wideRecord(0, n-1, integer), w, false}, {w, wideRecord(n-1, 1, boolean), false},
	} {
		if got := sub.Is(nil, x.low, x.high); got != x.want {
			t.Errorf("Is of %d and %d fields: %v", len(x.low.Args), len(x.high.Args), got)
		}
	}
	var d []api.Bind
	vars := wideRecord(0, n, top)
	for i := range n {
		d = append(d, bind(letters(i), integer))
		vars.Args[i] = variable(letters(n - 1 - i))
	}
	if !sub.Is(d, vars, w) || sub.Is(d, w, vars) || sub.Is(d[1:], vars, w) || sub.Is(d[:n-1], vars, w) {
		t.Error("Is of many variables")
	}
	// The bounds are valid once for all.
	if !sub.All(d, vars.Args, w.Args) || sub.All(d, w.Args, vars.Args) || sub.All(d[1:], vars.Args, w.Args) || sub.All(d, vars.Args[1:], w.Args) {
		t.Error("All of many variables")
	}
}

// small is the types of at most that depth, of leaves from a choice; records have the fields a and b.
func small(depth int, leaves []api.Ty) []api.Ty {
	if depth == 1 {
		return append([]api.Ty{empty}, leaves...)
	}
	parts := small(depth-1, leaves)
	l := slices.Clone(parts[:len(leaves)+1])
	for _, a := range parts {
		l = append(l, rec("a", a), rec("b", a))
		for _, b := range parts {
			l = append(l, fun(a, b), rec("a b", a, b))
		}
	}
	return l
}

// P10.1: all pairs of small types against the definition, with several bounds.
func TestSmall(t *testing.T) {
	flat := small(2, types(t, "Int; Top; ?; Q0; X; Y"))
	for _, s := range []string{"", "X: Int", "X: Top; Y: ?", "X: {a: Int}; Y: {a: Int, b: ?}", "X: Top -> Int; Y: {a: Top}"} {
		holdSmall(t, binds(t, s), flat)
	}
	high := small(3, types(t, "X"))
	for _, s := range []string{"X: {}", "X: {a: {}, b: {}}", "X: {a: {}} -> {}"} {
		holdSmall(t, binds(t, s), high)
	}
}

func holdSmall(t *testing.T, d []api.Bind, l []api.Ty) {
	held := 0
	for _, a := range l {
		for _, b := range l {
			want := slowIs(d, a, b)
			if got := sub.Is(d, a, b); got != want {
				t.Errorf("Is(%v, %v, %v) = %v", d, a, b, got)
			}
			if want {
				held++
			}
		}
	}
	if held < 2*len(l) || held > len(l)*len(l)/4 {
		t.Errorf("%d of %d pairs hold", held, len(l)*len(l))
	}
}

// P10.2: the relation is a partial order: on valid types each one is below itself, no two are below each other, and what
// is below what is below a type is below that type.
func TestOrder(t *testing.T) {
	l := small(2, types(t, "Int; Top; ?; Q0; X; Y"))
	l = append(l, types(t, "{a: {a: Int}}; {a: {a: X}}; (Int -> Top) -> Int; (Top -> Int) -> Top; (X -> Y) -> X; {a: Y -> X, b: X -> Y}; {a: Int, b: Int, c: Int}; {c: Top}; Int -> Int -> Int; Z -> Z; Z; {a: {b: Z}}; Top -> Top -> Z")...)
	for _, s := range []string{"", "X: Int; Y: Int", "X: {a: Int}; Y: {a: Int, b: Int}", "X: ?; Y: Top; Z: {}", "X: Top -> Int; Y: Int -> Top; Z: {a: {b: ?}}"} {
		d := binds(t, s)
		under := make([][]bool, len(l))
		for i, a := range l {
			under[i] = make([]bool, len(l))
			for j, b := range l {
				under[i][j] = sub.Is(d, a, b)
			}
		}
		checkOrder(t, d, l, under)
	}
}

func checkOrder(t *testing.T, d []api.Bind, l []api.Ty, under [][]bool) {
	for i, a := range l {
		if !under[i][i] {
			t.Errorf("with %v: %v is not below itself", d, a)
		}
		for j, b := range l {
			if under[i][j] && under[j][i] && exact(a) != exact(b) {
				t.Errorf("with %v: %v and %v are below each other", d, a, b)
			}
			for k, c := range l {
				if under[i][j] && under[j][k] && !under[i][k] {
					t.Errorf("with %v: %v is below %v, this below %v, and the first one isn't", d, a, b, c)
				}
			}
		}
	}
}

// random is a type of at most that depth, of leaves from a choice.
func random(r *rand.Rand, depth int, leaves []api.Ty) api.Ty {
	if depth > 1 && r.Intn(4) > 0 {
		if r.Intn(2) == 0 {
			return fun(random(r, depth-1, leaves), random(r, depth-1, leaves))
		}
		a := api.Ty{K: api.TRec}
		for _, s := range []string{"a", "b", "c1", "d"} {
			if r.Intn(2) == 0 {
				a.Labels, a.Args = append(a.Labels, s), append(a.Args, random(r, depth-1, leaves))
			}
		}
		return a
	}
	return leaves[r.Intn(len(leaves))]
}

// moved is a type one step above that one, or below it, at some place; itself if there is no step there.
func moved(r *rand.Rand, d []api.Bind, a api.Ty, up bool, leaves []api.Ty) api.Ty {
	if len(a.Args) > 0 && r.Intn(4) > 0 {
		i := r.Intn(len(a.Args))
		a.Args = slices.Clone(a.Args)
		a.Args[i] = moved(r, d, a.Args[i], up != (a.K == 7 && i == 0), leaves)
		return a
	}
	i := slices.IndexFunc(d, func(b api.Bind) bool {
		return up && a.K == 6 && b.Name == a.Name || !up && exact(a) == exact(b.Type)
	})
	switch {
	case i >= 0 && up && r.Intn(2) == 0:
		return d[i].Type
	case i >= 0 && !up:
		return variable(d[i].Name)
	case a.K == 8 && up && len(a.Args) > 0:
		i := r.Intn(len(a.Args))
		a.Labels, a.Args = slices.Delete(slices.Clone(a.Labels), i, i+1), slices.Delete(slices.Clone(a.Args), i, i+1)
	case a.K == 8 && !up && !slices.Contains(a.Labels, "c0"):
		i, _ := slices.BinarySearch(a.Labels, "c0")
		a.Labels, a.Args = slices.Insert(slices.Clone(a.Labels), i, "c0"), slices.Insert(slices.Clone(a.Args), i, random(r, 2, leaves))
	case up && r.Intn(3) == 0:
		return top
	case !up && a.K == 4:
		return random(r, 3, leaves)
	}
	return a
}

// P10.1, P10.2: the order is what single steps make: from a type to Top, from a variable to its bound, and from a record to
// one without a field, and the other way round in what a function takes. Whoever goes up does not come back.
func TestSteps(t *testing.T) {
	r := rand.New(rand.NewSource(10))
	leaves := types(t, "Int; Bool; String; ?; Top; Q0; Q1; X; Y; Z; V")
	for _, s := range []string{"", "X: Int; Y: {a: Int}", "X: ?; Y: Int -> Int; Z: {a: {b: Int}, c1: ?}", "X: Top; Y: {}; V: {d: Top -> ?}"} {
		d := binds(t, s)
		for range 600 {
			a := random(r, 5, leaves)
			for b, n := a, 0; n < 12; n++ {
				next := moved(r, d, b, true, leaves)
				wantIs(t, d, b, next, true)
				wantIs(t, d, a, next, true)
				wantIs(t, d, next, a, exact(next) == exact(a))
				b = next
			}
		}
	}
}

// Is and All on random bindings and types against the definition; many of them are not valid, and many are near each other.
func TestRandom(t *testing.T) {
	r := rand.New(rand.NewSource(11))
	closed := types(t, "Int; Bool; String; ?; Top; {}")
	leaves := append(slices.Clone(closed), types(t, "Q0; Q7; X; Y; Z; Xx")...)
	right, held, lists := 0, 0, 0
	for range 20000 {
		var d []api.Bind
		for _, s := range []string{"X", "Y", "Z", "Xx"} {
			if r.Intn(2) == 0 {
				d = append(d, bind(s, random(r, 3, closed)))
			}
		}
		if len(d) > 0 && r.Intn(8) == 0 {
			odd := []api.Bind{bind("x", integer), bind("", top), d[0], bind("V", leaves[r.Intn(len(leaves))]), bind("V", random(r, 2, wrong()))}
			d = slices.Insert(d, r.Intn(len(d)+1), odd[r.Intn(len(odd))])
		}
		var low, high []api.Ty
		all := true
		for range r.Intn(4) {
			a := random(r, 4, leaves)
			b := a
			for range r.Intn(6) {
				b = moved(r, d, b, r.Intn(6) > 0, leaves)
			}
			if r.Intn(12) == 0 {
				b = random(r, 2, wrong())
			}
			want := slowIs(d, a, b)
			wantIs(t, d, a, b, want)
			wantIs(t, d, b, a, slowIs(d, b, a))
			low, high = append(low, a), append(high, b)
			if all = all && want; want {
				held++
			}
		}
		if wantAll(t, d, low, high, all); all && len(low) > 1 {
			lists++
		}
		if slowRight(d) {
			right++
		}
	}
	if right < 10000 || right > 19500 || held < 10000 || held > 25000 || lists < 1000 {
		t.Errorf("of the random ones %d bounds are right, %d pairs hold, and %d lists", right, held, lists)
	}
}
