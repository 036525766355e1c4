package csub_test

import (
	"fmt"
	"math"
	"math/rand"
	"regexp"
	"slices"
	"strings"
	"testing"

	"limbeck/api"
	"limbeck/csub"
	"limbeck/prec"
	"limbeck/sub"
	"limbeck/tyread"
)

var (
	integer = api.Ty{K: api.TInt}
	boolean = api.Ty{K: api.TBool}
	str     = api.Ty{K: api.TStr}
	top     = api.Ty{K: api.TTop}
	unknown = api.Ty{K: api.TDyn}
	empty   = api.Ty{K: api.TRec}
)

func variable(s string) api.Ty { return api.Ty{K: api.TVar, Name: s} }

func seal(n int) api.Ty { return api.Ty{K: api.TSeal, N: n} }

func fun(a, b api.Ty) api.Ty { return api.Ty{K: api.TFun, Args: []api.Ty{a, b}} }

func rec(labels string, args ...api.Ty) api.Ty {
	return api.Ty{K: api.TRec, Labels: strings.Fields(labels), Args: args}
}

func bind(s string, a api.Ty) api.Bind { return api.Bind{Name: s, Type: a} }

// deep is that type within so many parts, of all sorts by turns.
func deep(n int, a api.Ty) api.Ty {
	for i := range n {
		switch i % 4 {
		case 0:
			a = fun(top, a)
		case 1:
			a = rec("a b", a, integer)
		case 2:
			a = fun(a, boolean)
		case 3:
			a = rec("a b", boolean, a)
		}
	}
	return a
}

// turned reports whether within so many parts the order is turned round.
func turned(n int) bool { return (n+1)/4%2 == 1 }

// letters is a type variable that no other number has.
func letters(i int) string { return "V" + fmt.Sprintf("%07x", i) }

// parse is the type of a text, in which Q7 stands for the seal 7.
func parse(t *testing.T, s string) api.Ty {
	t.Helper()
	a, err := tyread.Parse(s)
	if err != nil {
		t.Fatalf("%q is no type", s)
	}
	var walk func(a api.Ty) api.Ty
	walk = func(a api.Ty) api.Ty {
		n := 0
		if _, err := fmt.Sscanf(a.Name, "Q%d", &n); err == nil {
			return seal(n)
		}
		for i := range a.Args { // this type is nobody else's yet
			a.Args[i] = walk(a.Args[i])
		}
		return a
	}
	return walk(a)
}

// types is the types that a text gives, as in "Int; X -> X".
func types(t *testing.T, s string) []api.Ty {
	t.Helper()
	var l []api.Ty
	for _, x := range strings.Split(s, ";") {
		if strings.TrimSpace(x) != "" {
			l = append(l, parse(t, x))
		}
	}
	return l
}

// binds is the bindings that a text gives, as in "X: Int; Y: X -> X".
func binds(t *testing.T, s string) []api.Bind {
	t.Helper()
	var d []api.Bind
	for _, x := range strings.Split(s, ";") {
		if name, text, ok := strings.Cut(x, ":"); ok {
			d = append(d, bind(strings.TrimSpace(name), parse(t, text)))
		}
	}
	return d
}

// list has the nodes of a type in order, each one before those below it.
func list(a api.Ty) []api.Ty {
	var out []api.Ty
	for rest := []api.Ty{a}; len(rest) > 0; {
		x := rest[len(rest)-1]
		rest = rest[:len(rest)-1]
		out = append(out, x)
		for i := range x.Args {
			rest = append(rest, x.Args[len(x.Args)-1-i])
		}
	}
	return out
}

// exact is a text that no other type has.
func exact(a api.Ty) string {
	var s strings.Builder
	for _, x := range list(a) {
		fmt.Fprintf(&s, "%d %d %q %q %d;", x.K, x.N, x.Name, x.Labels, len(x.Args))
	}
	return s.String()
}

// alike reports whether exact of both types is the same; it is faster.
func alike(a, b api.Ty) bool {
	return slices.EqualFunc(list(a), list(b), func(x, y api.Ty) bool {
		return x.K == y.K && x.N == y.N && x.Name == y.Name && slices.Equal(x.Labels, y.Labels) && len(x.Args) == len(y.Args)
	})
}

// exactly is a text that no other bindings and types have.
func exactly(d []api.Bind, lists ...[]api.Ty) string {
	var s strings.Builder
	for _, b := range d {
		fmt.Fprintf(&s, "%q=%s|", b.Name, exact(b.Type))
	}
	for _, l := range lists {
		fmt.Fprintf(&s, "%d:", len(l))
		for _, a := range l {
			s.WriteString(exact(a) + "|")
		}
	}
	return s.String()
}

// short writes a value for a message: a type may be great.
func short(x any) string {
	s := fmt.Sprint(x)
	return s[:min(len(s), 300)]
}

// static reports whether a type has no ?.
func static(a api.Ty) bool {
	return !slices.ContainsFunc(list(a), func(x api.Ty) bool { return x.K == 5 })
}

// staticBounds reports whether bounds have no ?.
func staticBounds(d []api.Bind) bool {
	return !slices.ContainsFunc(d, func(b api.Bind) bool { return !static(b.Type) })
}

var (
	bindable = regexp.MustCompile(`^[A-Z][a-zA-Z0-9]{0,7}$`)
	typeWord = regexp.MustCompile(`^(Int|Bool|String|Top)$`)
	plain    = regexp.MustCompile(`^[a-z][a-z0-9]{0,7}$`)
	reserved = regexp.MustCompile(`^(let|in|if|then|else|fn|call|def|true|false)$`)
)

func slowVar(s string) bool { return bindable.MatchString(s) && !typeWord.MatchString(s) }

// slowType is the document's definition of a valid type, node by node; with open, variables and seals may occur.
func slowType(a api.Ty, open bool) bool {
	for _, x := range list(a) {
		for i, s := range x.Labels {
			if !plain.MatchString(s) || reserved.MatchString(s) || i > 0 && x.Labels[i-1] >= s {
				return false
			}
		}
		leaf := len(x.Labels) == 0 && len(x.Args) == 0
		switch {
		case x.K >= 1 && x.K <= 5 && leaf && x.N == 0 && x.Name == "":
		case open && x.K == 6 && leaf && x.N == 0 && slowVar(x.Name):
		case open && x.K == 9 && leaf && x.N >= 0 && x.N <= 1<<30 && x.Name == "":
		case x.K == 7 && len(x.Labels) == 0 && len(x.Args) == 2 && x.N == 0 && x.Name == "":
		case x.K == 8 && len(x.Labels) == len(x.Args) && x.N == 0 && x.Name == "":
		default:
			return false
		}
	}
	return true
}

func slowRight(d []api.Bind) bool {
	var names []string
	for _, b := range d {
		if !slowVar(b.Name) || !slowType(b.Type, false) {
			return false
		}
		names = append(names, b.Name)
	}
	slices.Sort(names)
	return len(slices.Compact(names)) == len(d)
}

// slowFields has the type of each label.
func slowFields(a api.Ty) map[string]api.Ty {
	m := map[string]api.Ty{}
	for i, s := range a.Labels {
		m[s] = a.Args[i]
	}
	return m
}

// slowBounds has the bound of each variable.
func slowBounds(d []api.Bind) map[string]api.Ty {
	m := map[string]api.Ty{}
	for _, b := range d {
		m[b.Name] = b.Type
	}
	return m
}

// slowIs keeps the pairs that are still to be held against each other, lower before upper. If consistent, ? may stand
// for any type; otherwise only subtypes count.
func slowIs(d []api.Bind, a, b api.Ty, consistent bool) bool {
	if !slowRight(d) || !slowType(a, true) || !slowType(b, true) {
		return false
	}
	bound := slowBounds(d)
	for rest := [][2]api.Ty{{a, b}}; len(rest) > 0; {
		low, high := rest[0][0], rest[0][1]
		rest = rest[1:]
		up, bounded := bound[low.Name]
		switch {
		case high.K == 4:
		case consistent && (low.K == 5 || high.K == 5):
		case low.K == 6 && high.K == 6 && low.Name == high.Name:
		case low.K == 6 && !bounded:
			return false
		case low.K == 6:
			rest = append(rest, [2]api.Ty{up, high})
		case low.K == 7 && high.K == 7:
			rest = append(rest, [2]api.Ty{high.Args[0], low.Args[0]}, [2]api.Ty{low.Args[1], high.Args[1]})
		case low.K == 8 && high.K == 8:
			fields := slowFields(low)
			for s, x := range slowFields(high) {
				y, ok := fields[s]
				if !ok {
					return false
				}
				rest = append(rest, [2]api.Ty{y, x})
			}
		case low.K != high.K || low.N != high.N || low.Name != high.Name || low.K >= 7 && low.K <= 8:
			return false
		}
	}
	return true
}

// slowSure asks the types, and then the bounds of all variables that occur.
func slowSure(d []api.Bind, a, b api.Ty) bool {
	bound := slowBounds(d)
	for _, x := range append(list(a), list(b)...) {
		if x.K == 5 || x.K == 6 && !static(bound[x.Name]) {
			return false
		}
	}
	return slowIs(d, a, b, false)
}

// fixedText is what exact says of Fixed of that type, node by node.
func fixedText(a api.Ty) string {
	var s strings.Builder
	for rest := []api.Ty{a}; len(rest) > 0; {
		x := rest[len(rest)-1]
		rest = rest[:len(rest)-1]
		if x.K == 5 {
			x = top
		}
		fmt.Fprintf(&s, "%d %d %q %q %d;", x.K, x.N, x.Name, x.Labels, len(x.Args))
		for i := range x.Args {
			rest = append(rest, x.Args[len(x.Args)-1-i])
		}
	}
	return s.String()
}

func slowFixed(a api.Ty) api.Ty {
	if a.K == 5 {
		return top
	}
	var args []api.Ty
	for _, x := range a.Args {
		args = append(args, slowFixed(x))
	}
	return api.Ty{K: a.K, N: a.N, Name: a.Name, Labels: a.Labels, Args: args}
}

// slowPick is the document's definition, both types at once, of types of which the first one may be below the second one.
func slowPick(bound map[string]api.Ty, a, b api.Ty) (api.Ty, api.Ty) {
	switch {
	case b.K == 4:
		return slowFixed(a), top
	case a.K == 5:
		return slowFixed(b), slowFixed(b)
	case b.K == 5:
		return slowFixed(a), slowFixed(a)
	case a.K == 6 && b.K == 6 && a.Name == b.Name:
		return a, b
	case a.K == 6:
		_, high := slowPick(bound, bound[a.Name], b)
		return a, high
	case a.K == 7:
		takes, given := slowPick(bound, b.Args[0], a.Args[0])
		low, high := slowPick(bound, a.Args[1], b.Args[1])
		return fun(given, low), fun(takes, high)
	case a.K == 8:
		low, high := api.Ty{K: 8, Labels: a.Labels}, api.Ty{K: 8, Labels: b.Labels}
		lows := map[string]api.Ty{}
		for i, s := range b.Labels {
			x, y := slowPick(bound, slowFields(a)[s], b.Args[i])
			lows[s] = x
			high.Args = append(high.Args, y)
		}
		for i, s := range a.Labels {
			x, ok := lows[s]
			if !ok {
				x = slowFixed(a.Args[i])
			}
			low.Args = append(low.Args, x)
		}
		return low, high
	}
	return a, b
}

// wantIs holds Is against what is wanted and against the definition, and what the other calls say of these types.
func wantIs(t *testing.T, d []api.Bind, a, b api.Ty, want bool) {
	t.Helper()
	before := exactly(d, []api.Ty{a, b})
	if got := csub.Is(d, a, b); got != want || slowIs(d, a, b, true) != want {
		t.Errorf("Is(%s, %s, %s) = %v, by the definition %v", short(d), short(a), short(b), got, slowIs(d, a, b, true))
	}
	if got := csub.All(d, []api.Ty{a}, []api.Ty{b}); got != want {
		t.Errorf("All(%s, %s, %s) = %v", short(d), short(a), short(b), got)
	}
	if got := csub.Sure(d, a, b); got != slowSure(d, a, b) {
		t.Errorf("Sure(%s, %s, %s) = %v", short(d), short(a), short(b), got)
	}
	wantPick(t, d, a, b)
	if exactly(d, []api.Ty{a, b}) != before {
		t.Errorf("the arguments are changed: %s, %s, %s", short(d), short(a), short(b))
	}
}

// wantPick holds Pick against the definition, and against what the document says of its results.
func wantPick(t *testing.T, d []api.Bind, a, b api.Ty) {
	t.Helper()
	low, high, ok := csub.Pick(d, a, b)
	var x, y api.Ty
	want := slowIs(d, a, b, true) && staticBounds(d)
	if want {
		x, y = slowPick(slowBounds(d), a, b)
	}
	if ok != want || !alike(low, x) || !alike(high, y) {
		t.Errorf("Pick(%s, %s, %s) = %s, %s, %v", short(d), short(a), short(b), short(low), short(high), ok)
	}
	if ok && (!static(low) || !static(high) || !sub.Is(d, low, high) || !prec.Less(low, a) || !prec.Less(high, b)) {
		t.Errorf("Pick(%s, %s, %s) = %s, %s: not what they are to be", short(d), short(a), short(b), short(low), short(high))
	}
}

// wantAll does the same for lists.
func wantAll(t *testing.T, d []api.Bind, a, b []api.Ty, want bool) {
	t.Helper()
	before := exactly(d, a, b)
	if got := csub.All(d, a, b); got != want {
		t.Errorf("All(%s, %s, %s) = %v", short(d), short(a), short(b), got)
	}
	if exactly(d, a, b) != before {
		t.Errorf("All has changed its arguments: %s, %s, %s", short(d), short(a), short(b))
	}
}

// pairs calls with the types of each pair of a text, as in "Int < Top; {} < {}".
func pairs(t *testing.T, text, sign string, call func(a, b api.Ty)) {
	t.Helper()
	for _, x := range strings.Split(text, ";") {
		left, right, ok := strings.Cut(x, sign)
		if !ok {
			t.Fatalf("%q is no pair", x)
		}
		call(parse(t, left), parse(t, right))
	}
}

// below holds each pair, as in "Int < Top": this way, and not the other way round.
func below(t *testing.T, d []api.Bind, text string) {
	t.Helper()
	pairs(t, text, "<", func(a, b api.Ty) {
		t.Helper()
		wantIs(t, d, a, b, true)
		wantIs(t, d, b, a, false)
	})
}

// both holds each pair, as in "Int = ?": either may be below the other one.
func both(t *testing.T, d []api.Bind, text string) {
	t.Helper()
	pairs(t, text, "=", func(a, b api.Ty) {
		t.Helper()
		wantIs(t, d, a, b, true)
		wantIs(t, d, b, a, true)
	})
}

// apart holds each pair, as in "Int | Bool": neither may be below the other one.
func apart(t *testing.T, d []api.Bind, text string) {
	t.Helper()
	pairs(t, text, "|", func(a, b api.Ty) {
		t.Helper()
		wantIs(t, d, a, b, false)
		wantIs(t, d, b, a, false)
	})
}

// P11.1: the document's examples, here and among those of the whole.
func TestExamples(t *testing.T) {
	below(t, nil, "{a: ?, b: Bool} < {a: Int}; Int < Top")
	both(t, nil, "{a: ?} = {a: Int}")
	apart(t, nil, "Int | Bool; Int -> Int | Bool -> Int")
	below(t, binds(t, "X: ?"), "X < Int")
	d := binds(t, "X: ?; Y: Top")
	for i, x := range []struct {
		a, b string
		want bool
	}{{"Y", "Top", true}, {"X", "Top", false}, {"X", "?", false}} {
		if csub.Sure(d, parse(t, x.a), parse(t, x.b)) != x.want {
			t.Errorf("%d: Sure", i)
		}
	}
}

// P11.1: the first rule of all: whatever a valid type is below Top, and ? is below it and above it.
func TestUnknown(t *testing.T) {
	l := append(types(t, "Int; Bool; String; Top; ?; X; Y; Z; Xx; Q0; Q7; {}; {a: Int}; {a: ?}; {a: X, b: Y}; Int -> Int; ? -> ?; X -> Y; (Top -> Int) -> {b: ? -> Q1}"), seal(1<<30))
	for _, d := range [][]api.Bind{nil, {}, binds(t, "X: Int; Y: ?; Z: Top"), binds(t, "Z: {a: Top -> ?}; X: Top")} {
		for _, a := range l {
			wantIs(t, d, a, unknown, true)
			wantIs(t, d, unknown, a, true)
			wantIs(t, d, a, top, true)
			for _, b := range l {
				// As a part, it hides nothing of the other parts.
				want := slowIs(d, a, b, true)
				wantIs(t, d, fun(unknown, a), fun(b, b), want)
				wantIs(t, d, fun(b, unknown), fun(a, a), want)
				wantIs(t, d, rec("a b", unknown, a), rec("a b", b, b), want)
				wantIs(t, d, rec("a b", a, b), rec("a b", b, unknown), want)
			}
		}
	}
}

// P11.1: what has no parts is below itself, ? and Top only, and above itself and ? only.
func TestBare(t *testing.T) {
	for _, d := range [][]api.Bind{nil, {}, binds(t, "X: Int; Y: ?; Z: Top")} {
		l := append(types(t, "Int; Bool; String; {}; Int -> Int; Q0; Q1; A; B; {a: Int}"), seal(1<<30), seal(1<<30-1))
		for i, a := range l {
			wantIs(t, d, a, top, true)
			wantIs(t, d, top, a, false)
			for j, b := range l {
				wantIs(t, d, a, b, i == j || i == 9 && j == 3)
			}
		}
		wantIs(t, d, top, top, true)
	}
}

// P11.1: a variable may be below itself and what its bound may be below; nothing but itself and ? is below it.
func TestVariables(t *testing.T) {
	d := binds(t, "A: Int; B: Int; C: {a: ?, b: Bool}; D: {a: Int}; E: Top; F: ?; G: ? -> Int; H: ?; Q: {}; X1: {c: {a: ?}}; Zz: Int -> ?")
	both(t, d, "A = A; F = F; F = H; E = E; A = ?; C = ?; E = ?; F = ?; G = ?; ? = X; X = X; {a: X} = {a: X}")
	below(t, d, "A < Int; B < Int; A < Top; C < {a: Int, b: Bool}; C < {a: Bool, b: Bool}; C < {a: X}; C < {b: Bool}; C < {b: ?}; C < {}; C < {a: {}}; C < Top")
	below(t, d, "D < {a: Int}; D < {a: ?}; D < {}; E < Top; F < Int; F < A; F < E; F < {}; F < {a: Int}; F < Int -> Bool; F < X; F < Q0; F < Top")
	below(t, d, "G < Int -> Int; G < Bool -> Int; G < X -> ?; G < ? -> ?; G < A -> Top; Q < {}; Q < Top; X1 < {c: {}}; X1 < {c: {a: Int}}; X1 < {c: {a: X}}; X1 < {}; Zz < A -> Top; Zz < B -> {}; Zz < Int -> Q0; Zz < ? -> ?")
	apart(t, d, "A | B; A | Bool; C | D; C | {c: Int}; C | {b: Int}; D | {b: Bool}; D | {a: Bool}; E | Int; E | {}; E | A; G | Zz; G | Int; G | Int -> Bool; Q | D; Q | {a: ?}; X1 | {c: {b: ?}}; Zz | Bool -> Int; G | {}")
	// A variable without a bound.
	below(t, d, "X < Top; Int -> X < Int -> Top; {a: X, b: X} < {b: X}; {a: X, b: X} < {b: ?}")
	apart(t, d, "X | Int; X | Y; X | A; X | E; X | {}; X | Int -> Int; X | ? -> ?; X | {a: ?}; X | Q0; {a: X} | {a: Int}")
	both(t, nil, "A = A; A = ?; A -> A = ? -> A; A -> A = A -> ?")
	apart(t, nil, "A | B; A | Int; A | {}; A | ? -> ?")
	// Variables within types, on either side of functions.
	below(t, d, "A -> A < A -> Int; Int -> A < A -> A; {a: A} < {a: Int}; {a: C} < {a: {a: Int}}; (A -> A) -> Int < (Int -> A) -> Int; Int -> F < F -> Int; Int -> F < Int -> Bool")
	both(t, d, "{a: F} = {a: H}; F -> F = H -> H; F -> A = ? -> A; {a: C} = {a: ?}")
	apart(t, d, "A -> A | B -> B; {a: A} | {a: B}; C -> C | D -> D; E -> Int | Int -> E; Zz -> Int | Int -> Int")
	// Names are held against each other byte by byte.
	e := binds(t, "X: Int; XX: Bool; Xx: String; X1: ?")
	below(t, e, "X < Int; XX < Bool; Xx < String; X1 < Int; X1 < XX")
	apart(t, e, "X | Bool; XX | Int; Xx | Int; X | XX; Xx | XX; Xxx | String; Xa | Int")
}

// P11.1: functions take more and give less.
func TestFunctions(t *testing.T) {
	both(t, nil, "Int -> Int = Int -> Int; ? -> Int = Int -> Int; Int -> ? = Int -> Int; ? -> ? = Int -> Bool; ? -> Bool = Int -> ?; (? -> Int) -> ? = (Bool -> ?) -> Int; ? -> ? = Int -> Int -> Int; ? -> Top = Top -> Top; ? -> ? = Top -> Top")
	below(t, nil, "Int -> Int < Int -> Top; Top -> Int < Int -> Int; Int -> Bool < Top; ? -> Int < Bool -> Top; Top -> Int < Int -> ?; ? -> Int < X -> Top; Top -> ? < Int -> Int")
	below(t, nil, "{} -> ? < {a: Int} -> Int; ? -> {a: Int} < Int -> {}; Int -> ? -> Int < ? -> Int -> Top; (Int -> Int) -> ? < (Top -> Int) -> Int; (? -> Top) -> Int < (? -> Bool) -> Int")
	apart(t, nil, "Int -> Int | Bool -> Int; Int -> Int | Int -> Bool; ? -> Int | ? -> Bool; Int -> ? | Bool -> ?; Int -> Int | Top -> Top; Int -> Int | Int; ? -> ? | {}; ? -> ? | Int; ? -> ? | X; ? -> ? | Q1; ? -> ? | {a: ?}")
	apart(t, nil, "Int -> ? -> Int | (Int -> Int) -> Bool; Q1 -> ? | Q2 -> Int; X -> Int | Y -> ?; {a: Int} -> {a: Int} | {} -> {}; (Int -> Top) -> Int | (Top -> Int) -> Top -> Int; (Int -> ?) -> Int | (Bool -> ?) -> Int")
}

// P11.1: a record may have more fields, anywhere, and lower types in them.
func TestRecords(t *testing.T) {
	both(t, nil, "{} = {}; {a: Int} = {a: ?}; {a: ?, b: Bool} = {a: Int, b: ?}; {a: ?} = {a: Top}; {a: {b: ?}} = {a: ?}; {a: ?, b: ?} = {a: X, b: Q1}")
	below(t, nil, "{} < Top; {a: ?} < {}; {a: ?} < Top; {a: Int} < {a: Top}; {a: {a: ?}} < {a: {}}; {a: Int, b: ?} < {b: Bool}; {a: ?, b: Bool} < {a: {c: Int}}; {a: Int, b: Bool} < {b: ?}")
	below(t, nil, "{a: Top -> ?} < {a: Int -> Top}; {a: Int -> {b: ?}, b: ?} < {a: ? -> {}}; {a: Int, a0: ?, aa: String} < {aa: String}; {a: Int, a0: ?, aa: String} < {a0: Bool}")
	apart(t, nil, "{a: Int} | {b: Int}; {a: ?} | {b: ?}; {a: Int} | {a: Bool}; {a: ?, b: Int} | {b: Bool}; {a: ?, b: Bool} | {a: Bool, b: Int}; {a: ?, b: ?} | {a: ?, c: ?}; {a: Int, b: ?} | {a: Bool}; {a: ?} | {a0: ?}; {a: ?} | {aa: ?}")
	apart(t, nil, "{} | Int; {} | Int -> Int; {a: ?} | Int; {a: ?} | Q1; {a: ?} | ? -> ?; {a: ?} | X; {a: {}} | {a: Int}; {a: {a: ?}} | {a: {b: ?}}; {a: Q1, b: ?} | {a: Q2, b: ?}")
}

// P11.1: all choices of up to six fields on both sides, and one field of another type.
func TestRecordChoices(t *testing.T) {
	labels := strings.Fields("a a0 b c1 c2 z")
	own := types(t, "Int; {a: ?}; ?; ? -> Int; Bool; Q4")
	higher := types(t, "Top; {a: Bool}; Int; Int -> Top; ?; Top")
	other := types(t, "Bool; {b: Int}; {b: ?}; Int -> Bool; String; Q5")
	choose := func(set int, from []api.Ty) api.Ty {
		a := api.Ty{K: api.TRec}
		for i := range labels {
			if set>>i&1 == 1 {
				a.Labels, a.Args = append(a.Labels, labels[i]), append(a.Args, from[i])
			}
		}
		return a
	}
	for x := range 64 {
		for y := range 64 {
			within := x|y == x
			wantIs(t, nil, choose(x, own), choose(y, own), within)
			wantIs(t, nil, choose(x, own), choose(y, higher), within)
			for i := range labels {
				mixed := slices.Clone(higher)
				mixed[i] = other[i]
				wantIs(t, nil, choose(x, own), choose(y, mixed), within && (y>>i&1 == 0 || i == 2))
			}
		}
	}
}

// wrong is types that are not valid.
func wrong() []api.Ty {
	l := []api.Ty{
		{}, {K: -1}, {K: 10}, {K: math.MaxInt}, {K: math.MinInt}, seal(-1), seal(1<<30 + 1), seal(math.MinInt), seal(math.MaxInt), {K: api.TSeal, Name: "X"},
		variable("x"), variable(""), variable("Int"), variable("Abcdefghi"), {K: api.TVar, Name: "X", N: 1}, {K: api.TVar, Name: "X", Args: []api.Ty{integer}},
		{K: api.TFun}, {K: api.TFun, Args: []api.Ty{top}}, {K: api.TFun, Args: []api.Ty{top, top, top}}, {K: api.TFun, N: 1, Args: []api.Ty{top, top}},
		rec("b a", top, top), rec("a a", top, top), rec("a"), rec("", top), rec("a b", top), rec("a", top, top), rec("X", top), rec("in", top), rec("abcdefghi", top),
		{K: api.TRec, Name: "a"}, {K: api.TRec, N: 3}, {K: api.TRec, Labels: []string{""}, Args: []api.Ty{top}},
	}
	for k := api.TInt; k <= api.TDyn; k++ {
		l = append(l, api.Ty{K: k, N: 1}, api.Ty{K: k, Name: "X"}, api.Ty{K: k, Labels: []string{"a"}}, api.Ty{K: k, Args: []api.Ty{top}})
	}
	return l
}

// around is that type, and types that have it in some place.
func around(a api.Ty) []api.Ty {
	return []api.Ty{a, fun(a, top), fun(top, a), rec("a", a), rec("a b c", top, a, unknown), rec("a b c", top, str, a),
		fun(rec("x", fun(boolean, a)), rec("y", integer)), deep(9, a)}
}

// P11.1: with a type that is not valid nothing holds, on either side, at any place: not below Top, nor beside ?, nor
// beside itself, nor in a part that no rule looks at.
func TestWrong(t *testing.T) {
	d := binds(t, "X: Int; Y: {a: Int}")
	for _, x := range wrong() {
		for _, a := range around(x) {
			for _, e := range [][]api.Bind{nil, d} {
				wantIs(t, e, a, a, false)
				wantIs(t, e, rec("a b", integer, a), rec("a", integer), false)
				wantIs(t, e, rec("a b", a, integer), empty, false)
				wantIs(t, e, fun(top, a), fun(top, top), false)
				wantIs(t, e, fun(integer, integer), fun(a, top), false)
				wantIs(t, e, fun(a, integer), fun(unknown, top), false)
				wantIs(t, e, fun(top, integer), fun(rec("a b", a, top), top), false)
				for _, b := range types(t, "Int; Top; ?; X; Y; Q0; {}; Int -> ?; {a: Top}; ? -> Top") {
					wantIs(t, e, a, b, false)
					wantIs(t, e, b, a, false)
				}
			}
		}
	}
}

// P3: empty lists are as good as none.
func TestBlank(t *testing.T) {
	blank := func(k int) api.Ty { return api.Ty{K: k, Labels: []string{}, Args: []api.Ty{}} }
	wantIs(t, []api.Bind{}, blank(api.TInt), integer, true)
	wantIs(t, []api.Bind{}, integer, blank(api.TInt), true)
	wantIs(t, nil, blank(api.TDyn), integer, true)
	wantIs(t, nil, integer, blank(api.TDyn), true)
	wantIs(t, nil, integer, blank(api.TTop), true)
	wantIs(t, nil, fun(empty, blank(api.TDyn)), fun(blank(api.TRec), integer), true)
	wantIs(t, nil, rec("a", integer), blank(api.TRec), true)
	wantIs(t, []api.Bind{bind("X", blank(api.TRec))}, variable("X"), empty, true)
	wantIs(t, []api.Bind{bind("X", blank(api.TDyn))}, variable("X"), integer, true)
}

// P11.1: with bounds that are not valid nothing holds, whether or not the types have to do with them.
func TestWrongBounds(t *testing.T) {
	closed := append(wrong(), types(t, "X; Y; Z; Q0; Q7")...)
	var bad [][]api.Bind
	for _, x := range closed {
		for _, a := range around(x) {
			bad = append(bad, []api.Bind{bind("X", a)}, []api.Bind{bind("X", integer), bind("Y", a)}, []api.Bind{bind("X", a), bind("Y", integer)})
		}
	}
	for _, s := range []string{"", "x", "Int", "Top", "Abcdefghi", "X ", "X_", "\xff"} {
		bad = append(bad, []api.Bind{bind(s, integer)}, []api.Bind{bind("X", integer), bind(s, integer)}, []api.Bind{bind(s, integer), bind("X", integer)})
	}
	bad = append(bad, binds(t, "X: Int; X: Int"), binds(t, "X: Int; Y: Int; X: Top"), binds(t, "Y: Int; Y: ?; X: Int"))
	for _, d := range bad {
		for _, x := range [][2]api.Ty{{integer, integer}, {integer, top}, {top, top}, {unknown, unknown}, {unknown, integer}, {boolean, unknown}, {variable("X"), integer}, {variable("X"), variable("X")}, {variable("X"), top}, {empty, empty}, {boolean, integer}} {
			wantIs(t, d, x[0], x[1], false)
		}
	}
}

// All: both lists are as long, and each pair holds, at each place.
func TestAll(t *testing.T) {
	d := binds(t, "X: Int; Y: {a: ?}; Z: ?")
	low := types(t, "Int; X; Y; {a: ?, b: Bool}; Top -> Int; ?; Q5; Z; Bool")
	high := types(t, "Top; Int; {a: Q1}; {a: Top}; ? -> Int; Int; Q5; Bool; ?")
	bad := types(t, "Bool; Y; {b: ?}; {c: Bool}; Top -> Bool; {}; Q6; Q7; X")
	for n := range len(low) + 1 {
		wantAll(t, d, low[:n], high[:n], true)
		wantAll(t, d, low[:n], low[:n], true)
		for i := range n {
			for _, x := range append([]api.Ty{bad[i]}, wrong()...) {
				wrongly := slices.Clone(high)
				wrongly[i] = x
				wantAll(t, d, low[:n], wrongly[:n], i == 5 && x.K == api.TRec && len(x.Labels) == 0 && slowType(x, true) || i == 7 && x.K == api.TSeal && x.N == 7)
				wantAll(t, d, low[:i], wrongly[:i], true)
			}
			for _, x := range wrong() {
				wrongly := slices.Clone(low)
				wrongly[i] = x
				wantAll(t, d, wrongly[:n], high[:n], false)
			}
			wantAll(t, d, low[:n], high[:i], false)
			wantAll(t, d, low[:i], high[:n], false)
		}
	}
	wantAll(t, d, high, low, false)
	wantAll(t, nil, low, high, false) // X has no bound there
	wantAll(t, nil, low[3:7], high[3:7], true)
}

// All of empty lists: there is no element for which anything would have to hold.
func TestAllEmpty(t *testing.T) {
	for _, d := range [][]api.Bind{nil, {}, binds(t, "X: Int"), binds(t, "X: ?"), binds(t, "X: X"), binds(t, "X: Int; X: Int"), {bind("", api.Ty{})}} {
		wantAll(t, d, nil, nil, true)
		wantAll(t, d, []api.Ty{}, nil, true)
		wantAll(t, d, nil, []api.Ty{}, true)
		wantAll(t, d, []api.Ty{integer}, nil, false)
		wantAll(t, d, []api.Ty{unknown}, nil, false)
		wantAll(t, d, nil, []api.Ty{top}, false)
		wantAll(t, d, nil, []api.Ty{unknown}, false)
		wantAll(t, d, []api.Ty{integer}, []api.Ty{unknown}, slowRight(d))
		wantAll(t, d, []api.Ty{integer, unknown}, []api.Ty{top, boolean}, slowRight(d))
	}
}

// wantSure holds Sure of each pair of a text against what is wanted.
func wantSure(t *testing.T, d []api.Bind, text string, want bool) {
	t.Helper()
	pairs(t, text, "<", func(a, b api.Ty) {
		t.Helper()
		if got := csub.Sure(d, a, b); got != want || slowSure(d, a, b) != want {
			t.Errorf("Sure(%v, %v, %v) = %v, by the definition %v", d, a, b, got, slowSure(d, a, b))
		}
	})
}

// Sure: a subtype, and no ? in the types or in the bounds of their variables, wherever it is and whether or not it matters.
func TestSure(t *testing.T) {
	d := binds(t, "X: ?; Y: Top; Z: {a: Int}; U: {a: Int, b: Int -> ?}; V: ? -> Int")
	wantSure(t, d, "Int < Int; Int < Top; Y < Y; Y < Top; Z < {a: Int}; Z < {}; Z < Z; {a: Z, b: Y} < {a: {}}; Z -> Z < Z -> {a: Int}; Q1 < Q1; Q1 < Top; W < W; W < Top; W -> Y < W -> Top; {} < {}; Top < Top", true)
	wantSure(t, d, "X < Top; X < ?; X < X; U < {a: Int}; U < Top; U < U; V < Top; V < V; {a: Int, b: X} < {a: Int}; {a: Int, b: U} < {}; Int -> X < Top; Top -> Int < X -> Int; Top -> Int < V -> Int; Int -> Int < U -> Int", false)
	wantSure(t, d, "? < ?; ? < Top; ? < Int; Int < ?; {a: Int, b: ?} < {a: Int}; {a: ?} < {}; Top -> Int < ? -> Int; ? -> Int < ? -> Int; Int -> ? < Top; {a: {b: ?}} < Top; ? -> Int < Top; Z < ?; ? < Z", false)
	wantSure(t, d, "Int < Bool; Top < Int; Y < Z; Z < Y; Z < {a: Bool}; Q1 < Q2; W < Int; W < Y; {} < {a: Int}; Int -> Int < Top -> Int; {a: Int} < Z", false)
	// Other variables than those that occur may have any bounds; nothing holds with bounds that are not valid.
	wantSure(t, binds(t, "X: ?; Y: Int"), "Y < Int; Int < Int; {a: Y} < {a: Int}", true)
	wantSure(t, binds(t, "Y: Int; X: ?"), "Y < Int; Y -> Y < Y -> Int", true)
	wantSure(t, nil, "X < X; X < Top; Int < Int", true)
	wantSure(t, binds(t, "X: Int; X: Int"), "Int < Int; X < Int; Int < Top", false)
	wantSure(t, binds(t, "X: Y"), "Int < Int; X < X", false)
	for _, x := range wrong() {
		for _, a := range around(x) {
			if csub.Sure(d, a, a) || csub.Sure(d, a, top) || csub.Sure(d, rec("a b", integer, a), rec("a", integer)) || csub.Sure([]api.Bind{bind("X", a)}, integer, integer) {
				t.Errorf("Sure of %v", a)
			}
		}
	}
}

// wantFixed holds Fixed against what is wanted.
func wantFixed(t *testing.T, a api.Ty, want string) {
	t.Helper()
	before := exact(a)
	if got := exact(csub.Fixed(a)); got != want {
		t.Errorf("Fixed(%s) = %s", short(a), short(csub.Fixed(a)))
	}
	if exact(a) != before {
		t.Errorf("Fixed has changed %s", short(a))
	}
}

// P11.2: Top is in place of each ?, and all else is as it was.
func TestFixed(t *testing.T) {
	pairs(t, "? < Top; ? -> Int < Top -> Int; Int -> ? < Int -> Top; {a: ?} < {a: Top}; {a: ?, b: {c: ? -> ?}} < {a: Top, b: {c: Top -> Top}}; (? -> X) -> Q3 < (Top -> X) -> Q3; {a: Int, b: ?, c: String} < {a: Int, b: Top, c: String}", "<", func(a, b api.Ty) {
		wantFixed(t, a, exact(b))
		wantFixed(t, b, exact(b))
	})
	for _, a := range types(t, "Int; Bool; String; Top; X; Q0; Q7; {}; Int -> Bool; {a: Int, b: X -> Top}") {
		wantFixed(t, a, exact(a))
	}
	for _, a := range small(3, types(t, "?; Q1")) {
		wantFixed(t, a, fixedText(a))
	}
	wantFixed(t, api.Ty{K: api.TDyn, Labels: []string{}, Args: []api.Ty{}}, exact(top))
}

// P11.2: of any type, valid or not: what it is within is left as it is.
func TestFixedWrong(t *testing.T) {
	for _, x := range wrong() {
		for _, a := range append(around(x), rec("b a", unknown, x), api.Ty{K: 77, N: 5, Name: "?", Labels: []string{"", "Z"}, Args: []api.Ty{unknown, x, fun(unknown, x)}}) {
			wantFixed(t, a, fixedText(a))
		}
	}
	for k := -1; k < 12; k++ {
		a := api.Ty{K: k, N: 3, Name: "x", Labels: []string{"b", "a", "a"}, Args: []api.Ty{unknown, integer, variable("?"), unknown}}
		wantFixed(t, a, fixedText(a))
	}
}

// Pick: one pair of types of a text after the other, and what is picked for each.
func TestPick(t *testing.T) {
	d := binds(t, "X: {a: Int, b: Top -> Int}; Y: Top; Z: Int -> Top; V: {a: {b: Int}}")
	for _, x := range []string{
		// b is Top
		"Int < Top = Int < Top; ? < Top = Top < Top; {a: ?} < Top = {a: Top} < Top; ? -> X < Top = Top -> X < Top; Y < Top = Y < Top; Top < Top = Top < Top; Q1 < Top = Q1 < Top",
		// a or b is ?
		"? < ? = Top < Top; ? < Int = Int < Int; ? < {a: ?} = {a: Top} < {a: Top}; ? < X = X < X; ? < ? -> Int = Top -> Int < Top -> Int; Int < ? = Int < Int; {a: ?, b: X} < ? = {a: Top, b: X} < {a: Top, b: X}; X < ? = X < X; ? -> ? < ? = Top -> Top < Top -> Top; Top < ? = Top < Top; Q1 < ? = Q1 < Q1; ? < Q1 = Q1 < Q1",
		// a is a variable
		"X < X = X < X; W < W = W < W; X < {} = X < {}; X < {a: ?} = X < {a: Int}; X < {b: ? -> ?} = X < {b: Top -> Int}; X < {a: Top} = X < {a: Top}; X < {b: Bool -> ?} = X < {b: Bool -> Int}; X < {a: ?, b: ?} = X < {a: Int, b: Top -> Int}; Z < ? -> ? = Z < Int -> Top; Z < ? -> Top = Z < Int -> Top; V < {a: ?} = V < {a: {b: Int}}; V < {a: {}} = V < {a: {}}; V < {a: {b: ?}} = V < {a: {b: Int}}",
		// functions
		"Int -> Int < Int -> Int = Int -> Int < Int -> Int; ? -> Int < Int -> ? = Int -> Int < Int -> Int; ? -> ? < ? -> ? = Top -> Top < Top -> Top; Top -> ? < ? -> Bool = Top -> Bool < Top -> Bool; ? -> Int < Bool -> Top = Bool -> Int < Bool -> Top; Int -> {} < ? -> ? = Int -> {} < Int -> {}; {} -> ? < {a: ?} -> ? = {} -> Top < {a: Top} -> Top; {a: ?} -> Y < {a: Int, b: ?} -> ? = {a: Int} -> Y < {a: Int, b: Top} -> Y; (? -> Int) -> Int < (Int -> ?) -> Top = (Int -> Int) -> Int < (Int -> Int) -> Top; {a: ?} -> Int < X -> ? = {a: Int} -> Int < X -> Int; {a: ?} -> Int < V -> Int = {a: {b: Int}} -> Int < V -> Int",
		// records
		"{} < {} = {} < {}; {a: ?} < {} = {a: Top} < {}; {a: ?, b: Bool} < {a: Int} = {a: Int, b: Bool} < {a: Int}; {a: ?, b: ?} < {b: Int} = {a: Top, b: Int} < {b: Int}; {a: Int, b: X} < {a: ?, b: {a: ?}} = {a: Int, b: X} < {a: Int, b: {a: Int}}; {a: {b: ?, c: ?}} < {a: {c: ?}} = {a: {b: Top, c: Top}} < {a: {c: Top}}; {a: ? -> Int, b: ?, c: Y} < {a: Bool -> ?, c: ?} = {a: Bool -> Int, b: Top, c: Y} < {a: Bool -> Int, c: Y}",
		// otherwise
		"Int < Int = Int < Int; Bool < Bool = Bool < Bool; String < String = String < String; Q1 < Q1 = Q1 < Q1",
	} {
		pickEach(t, d, x)
	}
	pickEach(t, nil, "X < X = X < X; X < ? = X < X; ? < X = X < X; X < Top = X < Top; X -> X < ? -> Top = X -> X < X -> Top")
}

func pickEach(t *testing.T, d []api.Bind, text string) {
	t.Helper()
	for _, x := range strings.Split(text, ";") {
		given, wanted, ok := strings.Cut(x, "=")
		if !ok {
			t.Fatalf("%q is nothing to pick", x)
		}
		pairs(t, given, "<", func(a, b api.Ty) {
			pairs(t, wanted, "<", func(low, high api.Ty) {
				wantIs(t, d, a, b, true)
				x, y, ok := csub.Pick(d, a, b)
				if !ok || exact(x) != exact(low) || exact(y) != exact(high) {
					t.Errorf("Pick(%v, %v, %v) = %v, %v, %v", d, a, b, x, y, ok)
				}
			})
		})
	}
}

// Pick: there is nothing if the bounds are not static, whether or not the types have to do with them, or if Is is false.
func TestPickNone(t *testing.T) {
	none := func(d []api.Bind, a, b api.Ty) {
		t.Helper()
		if x, y, ok := csub.Pick(d, a, b); ok || exact(x) != exact(api.Ty{}) || exact(y) != exact(api.Ty{}) {
			t.Errorf("Pick(%v, %v, %v) = %v, %v, %v", d, a, b, x, y, ok)
		}
	}
	for _, s := range []string{"X: ?", "Y: ?", "X: Int; Y: ?", "Y: ?; X: Int", "X: {a: ?}", "X: Int; Y: Int -> ?; Z: Top", "X: {a: {b: ? -> Int}}", "X: Int; X: Int", "X: Y", "X: Q1"} {
		pairs(t, "Int < Int; ? < Int; Int < ?; X < X; X < Top; Int < Top; ? < ?; {} < {}; Y < Y; Int < Bool", "<", func(a, b api.Ty) { none(binds(t, s), a, b) })
	}
	d := binds(t, "X: Int; Y: Top")
	pairs(t, "Int < Bool; Top < Int; X < Bool; Y < Int; Int < X; X < Y; Y < X; Z < Int; {} < {a: ?}; {a: ?} < {b: ?}; {a: Int, b: ?} < {a: Bool}; ? -> Int < ? -> Bool; Int -> ? < Bool -> ?; ? -> ? < {}; Q1 < Q2", "<", func(a, b api.Ty) {
		none(d, a, b)
		none(d, fun(b, integer), fun(a, integer))
		none(d, rec("a b", unknown, a), rec("a b", integer, b))
	})
	for _, x := range wrong() {
		for _, a := range around(x) {
			none(d, a, a)
			none(d, a, unknown)
			none(d, unknown, a)
			none(d, a, top)
			none([]api.Bind{bind("X", a)}, integer, integer)
		}
	}
}

// Types that are nested very deeply, with what decides at the bottom.
func TestDeep(t *testing.T) {
	bound := rec("a", integer)
	d := []api.Bind{bind("X", bound)}
	x := variable("X")
	for _, n := range []int{0, 1, 2, 3, 4, 5, 6, 7, 8, 9, 10, 11, 1<<16 - 4} {
		wantDeep(t, d, deep(n, x), deep(n, bound), !turned(n))
		wantDeep(t, d, deep(n, bound), deep(n, x), turned(n))
		wantDeep(t, d, deep(n, x), deep(n, x), true)
		wantDeep(t, nil, deep(n, x), deep(n, bound), false)
		wantDeep(t, d, deep(n, x), deep(n+4, x), false)
		wantDeep(t, d, deep(n, unknown), deep(n+4, x), true)
		wantDeep(t, d, deep(n+4, x), deep(n, unknown), true)
		wantDeep(t, d, deep(n, api.Ty{}), top, false)
		wantDeep(t, d, unknown, deep(n, api.Ty{}), false)
	}
	low := deep(1<<15, x)
	wantDeep(t, []api.Bind{bind("X", low)}, x, top, false)
	high := deep(1<<15, bound)
	wantDeep(t, []api.Bind{bind("X", high)}, deep(1<<15, x), deep(1<<15, high), true)
	wantDeep(t, []api.Bind{bind("X", high)}, deep(1<<15, x), deep(1<<15, unknown), true)
	wantDeep(t, []api.Bind{bind("X", high)}, deep(1<<15, high), deep(1<<15, x), false)
}

// wantDeep writes no types: they are too great for the message.
func wantDeep(t *testing.T, d []api.Bind, a, b api.Ty, want bool) {
	t.Helper()
	if got := csub.Is(d, a, b); got != want || csub.All(d, []api.Ty{a, a}, []api.Ty{b, unknown}) != want {
		t.Errorf("Is of types of depth: %v", got)
	}
	if csub.Sure(d, a, b) != (want && static(a) && static(b)) {
		t.Errorf("Sure of types of depth")
	}
	if !alike(csub.Fixed(a), slowFixed(a)) {
		t.Errorf("Fixed of a type of depth")
	}
	low, high, ok := csub.Pick(d, a, b)
	var x, y api.Ty
	if want {
		x, y = slowPick(slowBounds(d), a, b)
	}
	if ok != want || !alike(low, x) || !alike(high, y) {
		t.Errorf("Pick of types of depth: %v", ok)
	}
}

// wideRecord is a record of that many fields, from a label on that its number tells.
func wideRecord(from, n int, a api.Ty) api.Ty {
	w := api.Ty{K: api.TRec}
	for i := range n {
		w.Labels = append(w.Labels, fmt.Sprintf("v%07x", from+i))
		w.Args = append(w.Args, a)
	}
	return w
}

// Records of many fields, and as many variables and bindings.
func TestWide(t *testing.T) {
	const n = 1 << 17
	w, open := wideRecord(0, n, integer), wideRecord(0, n, unknown)
	for _, x := range []struct {
		low, high api.Ty
		want      bool
	}{
		{w, w, true}, {w, wideRecord(1, n-1, top), true}, {w, wideRecord(0, n-1, unknown), true}, {open, wideRecord(n-1, 1, integer), true}, {open, w, true}, {w, open, true},
		{open, wideRecord(1, n, unknown), false}, {wideRecord(1, n, unknown), open, false}, {wideRecord(0, n-1, integer), open, false}, {w, wideRecord(n-1, 1, boolean), false},
	} {
		low, high, ok := csub.Pick(nil, x.low, x.high)
		if got := csub.Is(nil, x.low, x.high); got != x.want || ok != x.want {
			t.Errorf("Is of %d and %d fields: %v", len(x.low.Args), len(x.high.Args), got)
		}
		if ok && (len(low.Args) != len(x.low.Args) || len(high.Args) != len(x.high.Args) || !csub.Sure(nil, low, high)) {
			t.Errorf("Pick of %d and %d fields: %d and %d", len(x.low.Args), len(x.high.Args), len(low.Args), len(high.Args))
		}
	}
	var d []api.Bind
	vars := wideRecord(0, n, top)
	for i := range n {
		d = append(d, bind(letters(i), integer))
		vars.Args[i] = variable(letters(n - 1 - i))
	}
	if !csub.Is(d, vars, w) || csub.Is(d, w, vars) || csub.Is(d[1:], vars, w) || csub.Is(d[:n-1], vars, w) {
		t.Error("Is of many variables")
	}
	// The bounds are valid once for all.
	if !csub.All(d, vars.Args, w.Args) || csub.All(d, w.Args, vars.Args) || csub.All(d[1:], vars.Args, w.Args) || csub.All(d, vars.Args[1:], w.Args) {
		t.Error("All of many variables")
	}
	if !csub.Sure(d, vars, w) || !csub.Sure(d, vars, vars) || csub.Sure(d, w, vars) {
		t.Error("Sure of many variables")
	}
	if low, high, ok := csub.Pick(d, vars, open); !ok || !alike(low, vars) || !alike(high, vars) {
		t.Error("Pick of many variables")
	}
	d[n/2].Type = unknown
	if csub.Sure(d, vars, w) || csub.Sure(d, vars, vars) || !csub.Is(d, vars, w) {
		t.Error("with one bound that is open")
	}
	if _, _, ok := csub.Pick(d, w, w); ok {
		t.Error("Pick with one bound that is open")
	}
}

// A great bound of a variable that occurs many times: only what lies above it is picked.
func TestGreatBound(t *testing.T) {
	const n = 1 << 17
	great := wideRecord(0, n, integer)
	x := variable("X")
	low := wideRecord(0, n, x)
	for _, c := range []struct {
		bound, high, picked string
	}{{"", "{v0000001: ?}", "{v0000001: Int}"}, {"Int -> ", "Int -> {v0000001: ?}", "Int -> {v0000001: Int}"}} {
		bound := great
		if c.bound != "" {
			bound = fun(integer, great)
		}
		d := []api.Bind{bind("X", bound)}
		a, b, ok := csub.Pick(d, low, wideRecord(0, n, parse(t, c.high)))
		if !ok || !alike(a, low) || !alike(b, wideRecord(0, n, parse(t, c.picked))) {
			t.Error("Pick with a great bound")
		}
		if !csub.Sure(d, low, b) {
			t.Error("Sure with a great bound")
		}
	}
}

// small is the types of at most that depth, of leaves from a choice; records have the fields a and b.
func small(depth int, leaves []api.Ty) []api.Ty {
	if depth == 1 {
		return append([]api.Ty{empty}, leaves...)
	}
	parts := small(depth-1, leaves)
	l := slices.Clone(parts[:len(leaves)+1])
	for _, a := range parts {
		l = append(l, rec("a", a), rec("b", a))
		for _, b := range parts {
			l = append(l, fun(a, b), rec("a b", a, b))
		}
	}
	return l
}

// P11.1, P11.3: all pairs of small types, with several bounds: against the definitions; a subtype may be a subtype, and
// if nothing is unknown, both are the same.
func TestSmall(t *testing.T) {
	flat := small(2, types(t, "Int; Top; ?; Q0; X; Y"))
	for _, s := range []string{"", "X: Int", "X: Top; Y: ?", "X: {a: Int}; Y: {a: Int, b: ?}", "X: Top -> Int; Y: {a: Top}"} {
		holdSmall(t, binds(t, s), flat)
	}
	holdSmall(t, binds(t, "X: {a: {}} -> {}"), small(3, types(t, "X")))
	high := small(3, types(t, "?"))
	holdSmall(t, nil, high)
}

func holdSmall(t *testing.T, d []api.Bind, l []api.Ty) {
	held, strict := 0, 0
	known := make([]bool, len(l))
	for i, a := range l {
		known[i] = !slices.ContainsFunc(list(a), func(x api.Ty) bool { return x.K == 5 || !static(slowBounds(d)[x.Name]) })
	}
	for i, a := range l {
		for j, b := range l {
			got, below := csub.Is(d, a, b), sub.Is(d, a, b)
			if want := slowIs(d, a, b, true); got != want {
				t.Errorf("Is(%v, %v, %v) = %v", d, a, b, got)
			}
			if below && !got || known[i] && known[j] && below != got || csub.Sure(d, a, b) != (below && known[i] && known[j]) {
				t.Errorf("Is(%v, %v, %v) = %v, a subtype: %v, sure: %v", d, a, b, got, below, csub.Sure(d, a, b))
			}
			if wantPick(t, d, a, b); got {
				held++
			}
			if below {
				strict++
			}
		}
	}
	if held < 2*len(l) || held > len(l)*len(l)*3/4 || (strict < held) != slices.Contains(known, false) {
		t.Errorf("%d of %d pairs hold, %d are subtypes", held, len(l)*len(l), strict)
	}
}

// weaker is all types that are less precise than that one, itself among them.
func weaker(a api.Ty) []api.Ty {
	l := []api.Ty{{K: a.K, N: a.N, Name: a.Name, Labels: a.Labels}}
	for _, x := range a.Args {
		var next []api.Ty
		for _, y := range l {
			for _, z := range weaker(x) {
				w := y
				w.Args = append(slices.Clone(y.Args), z)
				next = append(next, w)
			}
		}
		l = next
	}
	if a.K != 5 {
		l = append(l, unknown)
	}
	return l
}

// weakerBounds is all bounds that are less precise than those.
func weakerBounds(d []api.Bind) [][]api.Bind {
	l := [][]api.Bind{nil}
	for _, b := range d {
		var next [][]api.Bind
		for _, e := range l {
			for _, x := range weaker(b.Type) {
				next = append(next, append(slices.Clone(e), bind(b.Name, x)))
			}
		}
		l = next
	}
	return l
}

// P11.3: if a type may be below another one, so it is for less precise types and bounds.
func TestWeaker(t *testing.T) {
	l := small(2, types(t, "Int; Bool; Top; ?; X; Y"))
	l = append(l, types(t, "{a: {a: Int}}; {a: {a: X}}; (Int -> Top) -> Int; (Top -> Int) -> Top; (X -> Y) -> X; {a: Y -> X, b: X -> Y}; {a: Int, b: Q0, c: Int}; {c: Top}; Int -> Int -> Int; Y; {a: {b: Y}}; Q0")...)
	var less [][]api.Ty
	for _, a := range l {
		less = append(less, weaker(a))
	}
	for _, s := range []string{"", "X: Int; Y: Int", "X: {a: Int}; Y: ?", "X: Int -> Top; Y: {a: Int, b: Top}"} {
		d := binds(t, s)
		bounds := weakerBounds(d)
		held := 0
		for i, a := range l {
			for j, b := range l {
				if csub.Is(d, a, b) {
					holdWeaker(t, bounds, less[i], less[j])
					held++
				}
			}
		}
		if held < 3*len(l) {
			t.Errorf("only %d pairs hold", held)
		}
	}
}

func holdWeaker(t *testing.T, bounds [][]api.Bind, low, high []api.Ty) {
	for _, d := range bounds {
		for _, a := range low {
			for _, b := range high {
				if !csub.Is(d, a, b) {
					t.Errorf("Is(%v, %v, %v) = false, and for more precise ones true", d, a, b)
				}
			}
		}
	}
}

// P11.3: for static bounds a type may be below another one exactly if there are static types, at least as precise, for
// which it is so: here all those of which a small one could be made are held against each other.
func TestStatic(t *testing.T) {
	leaves := types(t, "Int; Top; X")
	l := small(2, append(types(t, "?"), leaves...))
	for _, s := range []string{"", "X: Int", "X: {a: Int}", "X: Top -> Int"} {
		holdStatic(t, binds(t, s), l, 2, leaves)
	}
	holdStatic(t, nil, small(3, types(t, "?")), 3, nil)
}

func holdStatic(t *testing.T, d []api.Bind, l []api.Ty, depth int, leaves []api.Ty) {
	made := make([][]api.Ty, len(l))
	for i, a := range l {
		made[i] = filled(a, depth, leaves)
	}
	found := 0
	for i, a := range l {
		for j, b := range l {
			want := someStatic(d, made[i], made[j])
			if got := csub.Is(d, a, b); got != want {
				t.Errorf("Is(%v, %v, %v) = %v", d, a, b, got)
			}
			if _, _, ok := csub.Pick(d, a, b); ok != want {
				t.Errorf("Pick(%v, %v, %v) = %v", d, a, b, ok)
			}
			if want {
				found++
			}
		}
	}
	if found < len(l) || found > len(l)*len(l)*3/4 {
		t.Errorf("%d of %d pairs have static types", found, len(l)*len(l))
	}
}

// filled is all types of at most that depth with another one, of leaves from a choice, in place of each ?.
func filled(a api.Ty, depth int, leaves []api.Ty) []api.Ty {
	if a.K == 5 {
		return small(depth, leaves)
	}
	l := []api.Ty{{K: a.K, N: a.N, Name: a.Name, Labels: a.Labels}}
	for _, x := range a.Args {
		var next []api.Ty
		for _, y := range l {
			for _, z := range filled(x, depth-1, leaves) {
				w := y
				w.Args = append(slices.Clone(y.Args), z)
				next = append(next, w)
			}
		}
		l = next
	}
	return l
}

func someStatic(d []api.Bind, low, high []api.Ty) bool {
	for _, a := range low {
		for _, b := range high {
			if sub.Is(d, a, b) {
				return true
			}
		}
	}
	return false
}

// random is a type of at most that depth, of leaves from a choice.
func random(r *rand.Rand, depth int, leaves []api.Ty) api.Ty {
	if depth > 1 && r.Intn(4) > 0 {
		if r.Intn(2) == 0 {
			return fun(random(r, depth-1, leaves), random(r, depth-1, leaves))
		}
		a := api.Ty{K: api.TRec}
		for _, s := range []string{"a", "b", "c1", "d"} {
			if r.Intn(2) == 0 {
				a.Labels, a.Args = append(a.Labels, s), append(a.Args, random(r, depth-1, leaves))
			}
		}
		return a
	}
	return leaves[r.Intn(len(leaves))]
}

// moved is a type one step above that one, or below it, at some place; itself if there is no step there.
func moved(r *rand.Rand, d []api.Bind, a api.Ty, up bool, leaves []api.Ty) api.Ty {
	if len(a.Args) > 0 && r.Intn(4) > 0 {
		i := r.Intn(len(a.Args))
		a.Args = slices.Clone(a.Args)
		a.Args[i] = moved(r, d, a.Args[i], up != (a.K == 7 && i == 0), leaves)
		return a
	}
	i := slices.IndexFunc(d, func(b api.Bind) bool {
		return up && a.K == 6 && b.Name == a.Name || !up && exact(a) == exact(b.Type)
	})
	switch {
	case i >= 0 && up && r.Intn(2) == 0:
		return d[i].Type
	case i >= 0 && !up:
		return variable(d[i].Name)
	case a.K == 8 && up && len(a.Args) > 0:
		i := r.Intn(len(a.Args))
		a.Labels, a.Args = slices.Delete(slices.Clone(a.Labels), i, i+1), slices.Delete(slices.Clone(a.Args), i, i+1)
	case a.K == 8 && !up && !slices.Contains(a.Labels, "c0"):
		i, _ := slices.BinarySearch(a.Labels, "c0")
		a.Labels, a.Args = slices.Insert(slices.Clone(a.Labels), i, "c0"), slices.Insert(slices.Clone(a.Args), i, random(r, 2, leaves))
	case up && r.Intn(3) == 0:
		return top
	case !up && a.K == 4:
		return random(r, 3, leaves)
	}
	return a
}

// cut is that type with ? in some places.
func cut(r *rand.Rand, a api.Ty) api.Ty {
	for range r.Intn(4) {
		if x, ok := prec.Cut(a, r.Intn(len(list(a))+2)); ok {
			a = x
		}
	}
	return a
}

// P11.1, P11.3: what single steps up lead to, with ? in some places of either type, and of the bounds, may be above.
func TestSteps(t *testing.T) {
	r := rand.New(rand.NewSource(12))
	leaves := types(t, "Int; Bool; String; Top; Q0; Q1; X; Y; Z; V")
	for _, s := range []string{"", "X: Int; Y: {a: Int}", "X: Top; Y: Int -> Int; Z: {a: {b: Int}, c1: Bool}", "X: Top; Y: {}; V: {d: Top -> Int}"} {
		d := binds(t, s)
		for range 600 {
			a := random(r, 5, leaves)
			b := a
			for range 8 {
				b = moved(r, d, b, true, leaves)
				wantIs(t, d, a, b, true)
				wantIs(t, d, cut(r, a), cut(r, b), true)
				e := slices.Clone(d)
				for i := range e {
					e[i].Type = cut(r, e[i].Type)
				}
				wantIs(t, e, cut(r, a), cut(r, b), true)
			}
		}
	}
}

// All calls on random bindings and types against the definitions; many of them are not valid, and many are near each other.
func TestRandom(t *testing.T) {
	r := rand.New(rand.NewSource(13))
	closed := types(t, "Int; Bool; String; ?; Top; {}")
	leaves := append(slices.Clone(closed), types(t, "Q0; Q7; X; Y; Z; Xx")...)
	right, held, lists, picked, sure := 0, 0, 0, 0, 0
	for range 20000 {
		var d []api.Bind
		from := r.Intn(len(closed)/2 + 1) // with or without ?
		for _, s := range []string{"X", "Y", "Z", "Xx"} {
			if r.Intn(2) == 0 {
				d = append(d, bind(s, random(r, 3, slices.Concat(closed[:3], closed[4-min(from, 1):]))))
			}
		}
		if len(d) > 0 && r.Intn(8) == 0 {
			odd := []api.Bind{bind("x", integer), bind("", top), d[0], bind("V", leaves[r.Intn(len(leaves))]), bind("V", random(r, 2, wrong()))}
			d = slices.Insert(d, r.Intn(len(d)+1), odd[r.Intn(len(odd))])
		}
		var low, high []api.Ty
		all := true
		for range r.Intn(4) {
			a := random(r, 4, leaves)
			b := a
			for range r.Intn(6) {
				b = moved(r, d, b, r.Intn(6) > 0, leaves)
			}
			a, b = cut(r, a), cut(r, b)
			if r.Intn(12) == 0 {
				b = random(r, 2, wrong())
			}
			want := slowIs(d, a, b, true)
			wantIs(t, d, a, b, want)
			wantIs(t, d, b, a, slowIs(d, b, a, true))
			wantFixed(t, a, fixedText(a))
			wantFixed(t, b, fixedText(b))
			low, high = append(low, a), append(high, b)
			if all = all && want; want {
				held++
			}
			if _, _, ok := csub.Pick(d, a, b); ok {
				picked++
			}
			if csub.Sure(d, a, b) {
				sure++
			}
		}
		if wantAll(t, d, low, high, all); all && len(low) > 1 {
			lists++
		}
		if slowRight(d) {
			right++
		}
	}
	if right < 10000 || right > 19500 || held < 10000 || held > 25000 || lists < 1000 || picked < 3000 || picked > held-3000 || sure < 1000 || sure > held-3000 {
		t.Errorf("of the random ones %d bounds are right, %d pairs hold, and %d lists; %d are picked, and %d sure", right, held, lists, picked, sure)
	}
}
