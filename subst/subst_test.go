package subst_test

import (
	"fmt"
	"math"
	"math/rand"
	"regexp"
	"slices"
	"strings"
	"testing"

	"limbeck/api"
	"limbeck/subst"
	"limbeck/ty"
	"limbeck/tyfmt"
	"limbeck/tyread"
)

var (
	integer = api.Ty{K: api.TInt}
	unknown = api.Ty{K: api.TDyn}
	empty   = api.Ty{K: api.TRec}
)

func variable(s string) api.Ty { return api.Ty{K: api.TVar, Name: s} }

func seal(n int) api.Ty { return api.Ty{K: api.TSeal, N: n} }

func fun(a, b api.Ty) api.Ty { return api.Ty{K: api.TFun, Args: []api.Ty{a, b}} }

func rec(labels string, args ...api.Ty) api.Ty {
	return api.Ty{K: api.TRec, Labels: strings.Fields(labels), Args: args}
}

// wide has that many Args that are alike, and so one node more if these have one.
func wide(n int, arg api.Ty) api.Ty {
	a := api.Ty{K: api.TRec}
	for range n {
		a.Args = append(a.Args, arg)
	}
	return a
}

// deep is that type within so many functions, each with an Int beside it.
func deep(n int, a api.Ty) api.Ty {
	for range n {
		a = fun(integer, a)
	}
	return a
}

// shared takes little memory, and has 2 to the n copies of that type.
func shared(n int, a api.Ty) api.Ty {
	for range n {
		a = fun(a, a)
	}
	return a
}

// parse is the type of a text, in which Q7 stands for the seal 7.
func parse(t *testing.T, s string) api.Ty {
	t.Helper()
	a, err := tyread.Parse(s)
	if err != nil {
		t.Fatalf("%q is no type", s)
	}
	var walk func(a api.Ty) api.Ty
	walk = func(a api.Ty) api.Ty {
		n := 0
		if _, err := fmt.Sscanf(a.Name, "Q%d", &n); err == nil {
			return seal(n)
		}
		for i := range a.Args { // this type is nobody else's yet
			a.Args[i] = walk(a.Args[i])
		}
		return a
	}
	return walk(a)
}

// source is the text that parse takes for a valid type.
func source(a api.Ty) string { return strings.ReplaceAll(tyfmt.Show(a), "#", "Q") }

// types is the types of texts that stand apart by semicolons.
func types(t *testing.T, s string) []api.Ty {
	t.Helper()
	var l []api.Ty
	for _, x := range strings.Split(s, ";") {
		if strings.TrimSpace(x) != "" {
			l = append(l, parse(t, x))
		}
	}
	return l
}

// binds is the bindings that a text gives, as in "X = Int; Y = X -> X".
func binds(t *testing.T, s string) []api.Bind {
	t.Helper()
	var m []api.Bind
	for _, x := range strings.Split(s, ";") {
		if name, text, ok := strings.Cut(x, "="); ok {
			m = append(m, api.Bind{Name: strings.TrimSpace(name), Type: parse(t, text)})
		}
	}
	return m
}

// node is a node of a type without its Args, and their number.
type node struct {
	k, n         int
	name, labels string
	args         int
}

// list has the nodes of the types in order, each one before those below it.
func list(l ...api.Ty) []node {
	var out []node
	for rest := [][]api.Ty{l}; len(rest) > 0; {
		last := len(rest) - 1
		if len(rest[last]) == 0 {
			rest = rest[:last]
			continue
		}
		a := rest[last][0]
		rest[last] = rest[last][1:]
		x := node{a.K, a.N, a.Name, "", len(a.Args)}
		if len(a.Labels) > 0 {
			x.labels = fmt.Sprintf("%q", a.Labels)
		}
		out = append(out, x)
		rest = append(rest, a.Args)
	}
	return out
}

// slow is the document's definition over the list of nodes: where instead knows a type, that one's nodes stand
// for the node and for all that are below it.
func slow(a api.Ty, instead func(x node) (api.Ty, bool)) []node {
	var out []node
	l := list(a)
	for len(l) > 0 {
		b, ok := instead(l[0])
		if !ok {
			out = append(out, l[0])
			l = l[1:]
			continue
		}
		out = append(out, list(b)...)
		for open := 1; open > 0; l = l[1:] {
			open += l[0].args - 1
		}
	}
	return out
}

func slowPut(a api.Ty, m []api.Bind) []node {
	first := map[string]api.Ty{}
	for i := range m {
		b := m[len(m)-1-i]
		first[b.Name] = b.Type
	}
	return slow(a, func(x node) (api.Ty, bool) {
		b, ok := first[x.name]
		return b, ok && x.k == 6
	})
}

func slowSeal(a api.Ty, names []string, from int) []node {
	if from < 0 || from+len(names) > 1<<30 || from > 1<<30 {
		return list(a)
	}
	numbers := map[string]int{}
	for i, s := range names {
		if _, ok := numbers[s]; !ok {
			numbers[s] = from + i
		}
	}
	return slow(a, func(x node) (api.Ty, bool) {
		n, ok := numbers[x.name]
		return seal(n), ok && x.k == 6
	})
}

func slowOpen(a api.Ty, from int, l []api.Ty) []node {
	hidden := map[int]api.Ty{}
	for i, b := range l {
		if from >= 0 && from <= 1<<30 {
			hidden[from+i] = b
		}
	}
	return slow(a, func(x node) (api.Ty, bool) {
		b, ok := hidden[x.n]
		return b, ok && x.k == 9
	})
}

// short writes a value for a message: a type may be great.
func short(x any) string {
	s := fmt.Sprint(x)
	return s[:min(len(s), 300)]
}

// kept fails if what one of the types holds is no longer what it was before the call.
func kept(t *testing.T, call func(), l ...api.Ty) {
	t.Helper()
	before := list(l...)
	call()
	if !slices.Equal(list(l...), before) {
		t.Errorf("an argument has changed: %s", short(l))
	}
}

func bound(m []api.Bind) []api.Ty {
	var l []api.Ty
	for _, b := range m {
		l = append(l, api.Ty{Name: b.Name, Args: []api.Ty{b.Type}})
	}
	return l
}

// fitted reports whether an answer is what it should be with these nodes: nothing if they are too many.
func fitted(got api.Ty, ok bool, want []node) bool {
	if len(want) > 300 {
		return !ok && slices.Equal(list(got), list(api.Ty{}))
	}
	return ok && slices.Equal(list(got), want)
}

func wantPut(t *testing.T, a api.Ty, m []api.Bind) {
	t.Helper()
	kept(t, func() {
		if got, ok := subst.Put(a, m); !fitted(got, ok, slowPut(a, m)) {
			t.Errorf("Put(%s, %s) = %s, %v", short(a), short(m), short(got), ok)
		}
	}, append(bound(m), a)...)
}

func wantSeal(t *testing.T, a api.Ty, names []string, from int) {
	t.Helper()
	before := strings.Join(names, ";")
	kept(t, func() {
		if got, want := subst.Seal(a, names, from), slowSeal(a, names, from); !slices.Equal(list(got), want) {
			t.Errorf("Seal(%s, %.300q, %d) = %s, want %s", short(a), names, from, short(got), short(want))
		}
	}, a)
	if strings.Join(names, ";") != before {
		t.Errorf("the names have changed: %.300q", names)
	}
}

func wantOpen(t *testing.T, a api.Ty, from int, l []api.Ty) {
	t.Helper()
	kept(t, func() {
		if got, ok := subst.Open(a, from, l); !fitted(got, ok, slowOpen(a, from, l)) {
			t.Errorf("Open(%s, %d, %s) = %s, %v", short(a), from, short(l), short(got), ok)
		}
	}, append([]api.Ty{a}, l...)...)
}

func wantAll(t *testing.T, l []api.Ty, m []api.Bind) {
	t.Helper()
	var want []node
	fit := true
	for _, a := range l {
		x := slowPut(a, m)
		want, fit = append(want, x...), fit && len(x) <= 300
	}
	kept(t, func() {
		got, ok := subst.All(l, m)
		if ok != fit || fit && (len(got) != len(l) || !slices.Equal(list(got...), want)) || !fit && len(got) != 0 {
			t.Errorf("All(%s, %s) = %s, %v", short(l), short(m), short(got), ok)
		}
	}, append(bound(m), l...)...)
}

// wantText holds a type against a text.
func wantText(t *testing.T, what string, got api.Ty, want string) {
	t.Helper()
	if s := tyfmt.Show(got); s != want {
		t.Errorf("%s is %q, want %q", what, s, want)
	}
}

func wantPutText(t *testing.T, a, m, want string) {
	t.Helper()
	got, ok := subst.Put(parse(t, a), binds(t, m))
	if !ok {
		t.Errorf("Put of %s with %s: false", a, m)
	}
	wantText(t, "Put of "+a+" with "+m, got, want)
	wantPut(t, parse(t, a), binds(t, m))
}

func wantSealText(t *testing.T, a, names string, from int, want string) {
	t.Helper()
	wantText(t, "Seal of "+a+" with "+names, subst.Seal(parse(t, a), strings.Fields(names), from), want)
	wantSeal(t, parse(t, a), strings.Fields(names), from)
}

func wantOpenText(t *testing.T, a string, from int, l, want string) {
	t.Helper()
	got, ok := subst.Open(parse(t, a), from, types(t, l))
	if !ok {
		t.Errorf("Open of %s with %s: false", a, l)
	}
	wantText(t, "Open of "+a+" with "+l, got, want)
	wantOpen(t, parse(t, a), from, types(t, l))
}

// The document's examples: P7.1 has Put and All, P7.2 Seal and Open.
func TestExamples(t *testing.T) {
	wantPutText(t, "X -> Y -> X", "X = Y; Y = Int; X = Int", "Y -> Int -> Y")
	l, ok := subst.All(types(t, "X; Y"), binds(t, "X = Int"))
	if s := tyfmt.List(l); !ok || s != "Int, Y" {
		t.Errorf("All: %s, %v", s, ok)
	}
	wantSealText(t, "X -> Y -> X", "X Y", 5, "#5 -> #6 -> #5")
	wantSealText(t, "X -> Y -> X", "X Y", -1, "X -> Y -> X")
	wantOpenText(t, "Q5 -> Q6 -> Q5", 5, "Int", "Int -> #6 -> Int")
}

// P7.1: variables at each place of a type, with any types for them.
func TestPut(t *testing.T) {
	wantPutText(t, "X", "X = Int", "Int")
	wantPutText(t, "X", "", "X")
	wantPutText(t, "X", "Y = Int", "X")
	wantPutText(t, "Int", "X = Bool", "Int")
	wantPutText(t, "Q3", "X = Bool; Q = Int", "#3")
	wantPutText(t, "{}", "X = {a: ?}", "{}")
	wantPutText(t, "X -> Y", "X = Int -> Int; Y = Top -> String", "(Int -> Int) -> Top -> String")
	wantPutText(t, "{a: X, b: X -> {c: Y}, d: (Z -> Y) -> ?}", "Y = ?; X = {d: Int}", "{a: {d: Int}, b: {d: Int} -> {c: ?}, d: (Z -> ?) -> ?}")
	wantPutText(t, "A -> B -> C -> D", "D = A; C = Q1; B = Bool", "A -> Bool -> #1 -> A")
	wantPutText(t, "X1 -> X -> Xx -> XX -> Ints", "X = Top; Int = ?; Ints = {}", "X1 -> Top -> Xx -> XX -> {}")
	wantPutText(t, "X -> ? -> Top -> String -> Bool -> Int -> Q0", "X = Y", "Y -> ? -> Top -> String -> Bool -> Int -> #0")
}

// P7.1: of several bindings with a name the first one counts, whatever the others are and wherever they stand.
func TestPutFirst(t *testing.T) {
	wantPutText(t, "X", "X = Int; X = Bool", "Int")
	wantPutText(t, "X -> Y", "Y = A; X = B; Y = C; X = D; X = E", "B -> A")
	wantPutText(t, "X", "X = X; X = Int", "X")
	wantPutText(t, "X -> X", "Z = Int; X = Y; Y = Bool; X = Z", "Y -> Y")
	// A type that counts for nothing need not fit.
	m := []api.Bind{{Name: "X", Type: integer}, {Name: "X", Type: wide(400, integer)}, {Name: "Y", Type: shared(400, integer)}}
	if got, ok := subst.Put(fun(variable("X"), variable("Z")), m); !ok || !ty.Same(got, fun(integer, variable("Z"))) {
		t.Errorf("Put: kind %d, %v", got.K, ok)
	}
	if got, ok := subst.Put(variable("X"), append(m[1:2:2], m[0])); ok || !ty.Same(got, api.Ty{}) {
		t.Errorf("Put: kind %d, %v", got.K, ok)
	}
}

// P7.1: what is inserted is not examined again: all variables are replaced at once.
func TestPutOnce(t *testing.T) {
	wantPutText(t, "X -> Y", "X = Y; Y = X", "Y -> X")
	wantPutText(t, "X -> Y -> Z", "X = Y; Y = Z; Z = X", "Y -> Z -> X")
	wantPutText(t, "X", "X = X -> X", "X -> X")
	wantPutText(t, "{a: X, b: Y}", "X = {a: X, b: Y}; Y = X -> Y", "{a: {a: X, b: Y}, b: X -> Y}")
}

// Put: only a variable has what a binding is for, and its name must be the same byte for byte.
func TestPutKinds(t *testing.T) {
	m := []api.Bind{{Name: "X", Type: unknown}, {Name: "", Type: seal(7)}, {Name: "a", Type: integer}, {Name: "\xff", Type: empty}, {Name: "Int", Type: empty}}
	names := []string{"X", "", "a", "\xff", "\xfe", "x", "X ", "X\x00", "XX", "A", "Int", "int"}
	for k := -3; k < 14; k++ {
		for _, s := range names {
			wantPut(t, api.Ty{K: k, Name: s}, m)
			wantPut(t, fun(api.Ty{K: k, Name: s}, rec("a b", variable("X"), api.Ty{K: k, N: 5, Name: s})), m)
			if got, _ := subst.Put(api.Ty{K: k, N: 3, Name: s, Labels: names}, m); k != api.TVar && (got.K != k || got.N != 3 || got.Name != s || len(got.Labels) != len(names)) {
				t.Errorf("Put of kind %d named %q: %v", k, s, got)
			}
		}
	}
	wantPut(t, api.Ty{K: math.MaxInt, Name: "X"}, m)
	wantPut(t, api.Ty{K: math.MinInt, Name: "X"}, m)
}

// odd is types that are not valid, with variables and seals in unusual places.
func odd() []api.Ty {
	l := []api.Ty{
		{}, {Args: []api.Ty{{}, variable("X")}}, {K: api.TInt, N: 1, Name: "X", Args: []api.Ty{variable("X"), seal(1)}},
		{K: api.TVar, Name: "X", N: 4, Labels: []string{"X"}, Args: []api.Ty{variable("X"), variable("Y"), seal(2)}},
		{K: api.TVar, Name: "Z", N: 1, Labels: []string{"b", "a"}, Args: []api.Ty{variable("X"), {K: api.TVar, Name: "Z", Args: []api.Ty{variable("Y"), seal(0)}}}},
		{K: api.TSeal, N: 1, Name: "X", Labels: []string{"", ""}, Args: []api.Ty{seal(1), variable("X"), seal(5)}},
		{K: api.TSeal, N: 6, Name: "Y", Args: []api.Ty{seal(0), variable("Y")}},
		{K: api.TSeal, N: -1, Args: []api.Ty{fun(variable("Y"), seal(3))}}, {K: api.TSeal, N: math.MinInt}, {K: api.TSeal, N: math.MaxInt},
		{K: api.TFun, Args: []api.Ty{variable("X")}}, {K: api.TFun}, {K: api.TFun, Args: []api.Ty{variable("Y"), variable("X"), seal(1)}},
		{K: api.TRec, Labels: []string{"b", "a", "a"}, Args: []api.Ty{variable("Y"), seal(0)}}, rec("X Y", variable("X")), rec("", variable("X"), seal(2)),
		{K: -5, N: -5, Name: "X", Labels: []string{"q"}, Args: []api.Ty{{K: 77, Args: []api.Ty{variable("X"), seal(1)}}}},
		variable(""), variable("x"), variable("Int"), variable("\xff"), seal(1<<30 + 1),
	}
	for _, a := range l[:13] {
		l = append(l, fun(a, integer), rec("a b", fun(unknown, a), variable("X")), api.Ty{K: api.TVar, Name: "Q", Args: []api.Ty{a, a}})
	}
	return l
}

// All calls take types that are not valid as they are, and whatever is inserted too.
func TestOdd(t *testing.T) {
	l := odd()
	for i, a := range l {
		b, c := l[(i+7)%len(l)], l[(i*5+3)%len(l)]
		for _, m := range [][]api.Bind{nil, {{Name: "X", Type: b}}, {{Name: "Y", Type: b}, {Name: "", Type: c}}, {{Name: "Z", Type: c}, {Name: "x", Type: b}}, {{Name: "Q", Type: b}, {Name: "\xff", Type: c}, {Name: "X", Type: c}}} {
			wantPut(t, a, m)
			wantAll(t, l, m)
		}
		for _, names := range [][]string{nil, {"X"}, {"Y", "", "X"}, {"Q", "Z"}, {"x", "Z", "\xff", "Int", "X", "x"}} {
			for _, from := range []int{0, 3, 1<<30 - 6, 1<<30 - 1, -1} {
				wantSeal(t, a, names, from)
			}
		}
		for _, from := range []int{0, 1, 2, 5, 1 << 30, 1<<30 + 1, -1, math.MinInt, math.MaxInt} {
			wantOpen(t, a, from, nil)
			wantOpen(t, a, from, []api.Ty{b})
			wantOpen(t, a, from, []api.Ty{b, c, a})
		}
	}
	// A node that is replaced leaves nothing of itself.
	x := api.Ty{K: api.TVar, N: 4, Name: "X", Labels: []string{"X"}, Args: []api.Ty{variable("X")}}
	if got, ok := subst.Put(x, []api.Bind{{Name: "X", Type: integer}}); !ok || !ty.Same(got, integer) {
		t.Errorf("Put: %v, %v", got, ok)
	}
	if got := subst.Seal(x, []string{"X"}, 9); !ty.Same(got, seal(9)) {
		t.Errorf("Seal: %v", got)
	}
	x.K = api.TSeal
	if got, ok := subst.Open(x, 3, []api.Ty{integer, unknown}); !ok || !ty.Same(got, unknown) {
		t.Errorf("Open: %v, %v", got, ok)
	}
}

// P7.1 and P7.2: types whose results have as many nodes as the limit, and more or fewer.
func TestLimit(t *testing.T) {
	for n := 1; n <= api.MaxTy+4; n++ {
		for _, a := range []api.Ty{wide(n-1, integer), wide(n-1, variable("Z")), wide(n-1, seal(9)), deep(n/2, unknown)} {
			wantPut(t, a, nil)
			wantPut(t, a, []api.Bind{{Name: "X", Type: fun(integer, integer)}})
			wantAll(t, []api.Ty{a, integer}, nil)
			wantOpen(t, a, 0, nil)
			wantOpen(t, a, 4, []api.Ty{integer, fun(integer, integer)})
			for _, from := range []int{-1, 1<<30 + 1, math.MinInt, math.MaxInt} {
				wantOpen(t, a, from, []api.Ty{integer})
			}
		}
		// As many nodes come in place of one; then each of so many by three.
		for _, b := range []api.Ty{wide(n-1, integer), deep(n/2, variable("X")), wide(n-1, seal(9))} {
			for _, a := range []func(x api.Ty) api.Ty{func(x api.Ty) api.Ty { return x }, func(x api.Ty) api.Ty { return rec("a", x) }, func(x api.Ty) api.Ty { return fun(x, integer) }, func(x api.Ty) api.Ty { return fun(fun(unknown, x), x) }} {
				wantPut(t, a(variable("X")), []api.Bind{{Name: "X", Type: b}})
				wantOpen(t, a(seal(9)), 9, []api.Ty{b})
			}
		}
		three := fun(variable("X"), seal(9))
		wantPut(t, wide(n/3, variable("X")), []api.Bind{{Name: "X", Type: three}})
		wantOpen(t, wide(n/3, seal(9)), 9, []api.Ty{three})
		wantPut(t, deep(n/4, fun(variable("X"), unknown)), []api.Bind{{Name: "X", Type: three}})
		wantPut(t, fun(wide(n/2, integer), fun(variable("X"), wide(n/2, integer))), []api.Bind{{Name: "X", Type: three}})
	}
}

// P7.1: what is replaced does not count, so a type that is too great may have a result that fits.
func TestLimitShrinks(t *testing.T) {
	below := api.Ty{K: api.TVar, Name: "X", Args: []api.Ty{wide(500, integer)}}
	hidden := api.Ty{K: api.TSeal, N: 2, Args: []api.Ty{wide(500, integer)}}
	wantPut(t, below, nil)
	wantPut(t, below, []api.Bind{{Name: "X", Type: integer}})
	wantPut(t, wide(200, below), []api.Bind{{Name: "X", Type: integer}})
	wantPut(t, wide(299, below), []api.Bind{{Name: "X", Type: integer}})
	wantPut(t, wide(300, below), []api.Bind{{Name: "X", Type: integer}})
	wantOpen(t, hidden, 3, []api.Ty{integer})
	wantOpen(t, hidden, 2, []api.Ty{integer})
	wantOpen(t, wide(299, hidden), 1, []api.Ty{integer, unknown})
	wantOpen(t, wide(300, hidden), 1, []api.Ty{integer, unknown})
	wantSeal(t, wide(300, below), []string{"X"}, 2)
	huge := api.Ty{K: api.TVar, Name: "X", Args: []api.Ty{shared(1000, integer)}}
	if got, ok := subst.Put(huge, []api.Bind{{Name: "X", Type: empty}}); !ok || !ty.Same(got, empty) {
		t.Errorf("Put: kind %d, %v", got.K, ok)
	}
	if got := subst.Seal(huge, []string{"X"}, 0); !ty.Same(got, seal(0)) {
		t.Errorf("Seal: kind %d", got.K)
	}
}

// Put, All and Open answer at once, however much greater than the limit a type with shared parts is.
func TestShared(t *testing.T) {
	x, m, l := variable("X"), []api.Bind{{Name: "X", Type: fun(integer, integer)}}, []api.Ty{fun(integer, integer)}
	for n := range 400 {
		// 2 to the n parts have three nodes each, and there is one less of functions.
		if _, ok := subst.Put(shared(n, x), m); ok != (n < 7) {
			t.Errorf("Put of depth %d: %v", n, ok)
		}
		if _, ok := subst.Open(shared(n, seal(0)), 0, l); ok != (n < 7) {
			t.Errorf("Open of depth %d: %v", n, ok)
		}
		if _, ok := subst.Put(fun(integer, x), []api.Bind{{Name: "X", Type: shared(n, x)}}); ok != (n < 8) {
			t.Errorf("Put with depth %d: %v", n, ok)
		}
		if _, ok := subst.All([]api.Ty{integer, shared(n, x), x}, m); ok != (n < 7) {
			t.Errorf("All with depth %d: %v", n, ok)
		}
		for _, from := range []int{-1, 3, 1<<30 + 1} {
			if got, ok := subst.Open(shared(n, x), from, l); ok != (n < 8) || ok != (got.K != 0) {
				t.Errorf("Open of depth %d from %d: %v", n, from, ok)
			}
		}
		for _, from := range []int{-1, 1 << 30, math.MaxInt, math.MinInt} {
			if got := subst.Seal(shared(n, x), []string{"X"}, from); got.K != shared(n, x).K {
				t.Errorf("Seal of depth %d from %d: kind %d", n, from, got.K)
			}
		}
	}
}

// All: each type in its place; nothing if one of them does not fit, wherever it stands.
func TestAll(t *testing.T) {
	m := binds(t, "X = Int -> Y; Y = ?")
	wantAll(t, nil, nil)
	wantAll(t, []api.Ty{}, m)
	for _, s := range []string{"X", "Y", "Z", "X; X", "Z; Y; X; Int", "{a: X, b: Y}; Y -> X; Top; Q3; X -> X"} {
		wantAll(t, types(t, s), m)
		wantAll(t, types(t, s), nil)
		wantAll(t, types(t, s), []api.Bind{})
	}
	l, ok := subst.All(types(t, "{a: X}; Y -> Z; Top"), m)
	if s := tyfmt.List(l); !ok || s != "{a: Int -> Y}, ? -> Z, Top" {
		t.Errorf("All: %s, %v", s, ok)
	}
	for i := range 5 {
		for _, n := range []int{299, 300, 301} {
			l := types(t, "X; Int; Y; X -> X; Z")
			l[i] = wide(n-1, variable("Y"))
			wantAll(t, l, m)
			wantAll(t, l[i:], m)
			wantAll(t, l[:i+1], nil)
		}
	}
	// They need not fit together.
	wantAll(t, []api.Ty{wide(299, integer), wide(299, integer), wide(299, integer)}, m)
}

// P7.2: Seal of variables at each place; the first of equal names gives the number.
func TestSeal(t *testing.T) {
	wantSealText(t, "X", "X", 0, "#0")
	wantSealText(t, "X", "", 0, "X")
	wantSealText(t, "X", "Y", 0, "X")
	wantSealText(t, "Int", "X", 0, "Int")
	wantSealText(t, "X -> Y -> Z", "Z Y X", 10, "#12 -> #11 -> #10")
	wantSealText(t, "X -> Y -> Z", "X Z", 0, "#0 -> Y -> #1")
	wantSealText(t, "X -> Y", "X X Y X Y", 3, "#3 -> #5")
	wantSealText(t, "{a: X, b: X -> {c: Y}, d: (Z -> Y) -> ?}", "W Y X", 7, "{a: #9, b: #9 -> {c: #8}, d: (Z -> #8) -> ?}")
	wantSealText(t, "Q0 -> X -> Q1 -> Y", "X Y", 0, "#0 -> #0 -> #1 -> #1")
	wantSealText(t, "X1 -> X -> Xx -> XX -> Ints", "X Int Ints", 1, "X1 -> #1 -> Xx -> XX -> #3")
	wantSealText(t, "Int -> Bool -> String -> Top", "Int Bool String Top", 0, "Int -> Bool -> String -> Top")
	for k := -3; k < 14; k++ {
		for _, s := range []string{"X", "", "a", "\xff", "\xfe", "x", "X\x00"} {
			wantSeal(t, fun(api.Ty{K: k, Name: s, N: 2}, api.Ty{K: k, Name: s, Args: []api.Ty{variable("X")}}), []string{"a", "\xff", "X", ""}, 40)
		}
	}
}

// P7.2: the numbers from which on Seal replaces anything depend on how many names there are.
func TestSealFrom(t *testing.T) {
	a := parse(t, "X -> {a: Y, b: Z} -> Q0")
	for _, names := range [][]string{{"X"}, {"X", "Y"}, {"Z", "Y", "X"}, {"A", "B", "C", "D", "E", "F", "Z", "X", "Z"}} {
		top := 1<<30 - len(names)
		for _, from := range []int{0, 1, 77, top - 1, top} {
			wantSeal(t, a, names, from)
			if ty.Same(subst.Seal(a, names, from), a) {
				t.Errorf("Seal with %q from %d replaces nothing", names, from)
			}
		}
		for _, from := range []int{-1, -2, top + 1, top + 2, 1 << 30, 1<<30 + 1, 1 << 31, 1 << 32, math.MaxInt, math.MaxInt - 1, math.MinInt, math.MinInt + 1} {
			wantSeal(t, a, names, from)
			if !ty.Same(subst.Seal(a, names, from), a) {
				t.Errorf("Seal with %q from %d replaces something", names, from)
			}
		}
	}
	wantSealText(t, "X -> Y", "X Y", 1<<30-2, "#1073741822 -> #1073741823")
	wantSealText(t, "X -> Y", "X Y", 1<<30-1, "X -> Y")
	for _, from := range []int{0, 1 << 30, 1<<30 + 1, -1, math.MaxInt, math.MinInt} {
		wantSeal(t, a, nil, from)
		wantSeal(t, a, []string{}, from)
	}
}

// P7.2: Seal knows no limit of nodes.
func TestSealLarge(t *testing.T) {
	for _, n := range []int{299, 300, 301, 1000, 50000} {
		a := wide(n-1, variable("Y"))
		wantSeal(t, a, []string{"X", "Y"}, 3)
		wantSeal(t, a, nil, 3)
		if got := subst.Seal(a, []string{"X", "Y"}, 3); len(got.Args) != n-1 || !ty.Same(got.Args[n-2], seal(4)) {
			t.Errorf("Seal of %d nodes: %s", n, short(got))
		}
	}
	chain := variable("X")
	for range 1 << 15 {
		chain = fun(chain, fun(unknown, variable("Y")))
	}
	wantSeal(t, chain, []string{"Y", "X"}, 100)
	wantSeal(t, deep(1<<16, variable("X")), []string{"Y", "X"}, 0)
	var names []string
	for i := range 3000 {
		names = append(names, fmt.Sprint("X", i))
	}
	wantSeal(t, fun(variable("X0"), fun(variable("X2999"), variable("X3000"))), names, 1<<30-3000)
	for _, a := range []api.Ty{chain, deep(1<<16, seal(0)), wide(1<<16, variable("X"))} {
		wantPut(t, a, []api.Bind{{Name: "X", Type: integer}})
		wantAll(t, []api.Ty{integer, a}, nil)
		wantOpen(t, a, 0, []api.Ty{integer})
		wantPut(t, variable("X"), []api.Bind{{Name: "X", Type: a}})
		wantOpen(t, fun(seal(1), seal(0)), 0, []api.Ty{a})
	}
}

// P7.2: Open of seals at each place; those with other numbers stay, and so does what is inserted.
func TestOpen(t *testing.T) {
	wantOpenText(t, "Q0", 0, "Int", "Int")
	wantOpenText(t, "Q0", 0, "", "#0")
	wantOpenText(t, "Q1", 0, "Int", "#1")
	wantOpenText(t, "Q0", 1, "Int", "#0")
	wantOpenText(t, "Int -> X", 0, "Bool", "Int -> X")
	wantOpenText(t, "Q3 -> Q4 -> Q5 -> Q6", 4, "Int; Bool", "#3 -> Int -> Bool -> #6")
	wantOpenText(t, "Q5 -> Q4 -> Q5 -> Q4", 4, "Int; Bool", "Bool -> Int -> Bool -> Int")
	wantOpenText(t, "{a: Q2, b: Q1 -> {c: X}, d: (Q3 -> Q2) -> ?}", 1, "X; Int -> Int", "{a: Int -> Int, b: X -> {c: X}, d: (#3 -> Int -> Int) -> ?}")
	wantOpenText(t, "Q0 -> Q1", 0, "Q1; Q0", "#1 -> #0")
	wantOpenText(t, "Q0 -> Q1 -> Q2", 0, "Q0 -> Q1; Q2; Q2", "(#0 -> #1) -> #2 -> #2")
	for k := -3; k < 14; k++ {
		for n := -2; n < 8; n++ {
			a := fun(api.Ty{K: k, Name: "X", N: n}, api.Ty{K: k, N: n, Args: []api.Ty{seal(3), seal(n)}})
			wantOpen(t, a, 2, []api.Ty{unknown, integer, fun(seal(2), seal(5))})
			wantOpen(t, a, 0, []api.Ty{seal(1)})
		}
	}
}

// P7.2: the numbers from which on Open replaces anything, and seals whose numbers are far away from them.
func TestOpenFrom(t *testing.T) {
	l := []api.Ty{integer, unknown, fun(seal(0), integer)}
	far := []int{0, 1, 2, 3, -1, -2, -3, 1 << 30, 1<<30 + 1, 1<<30 + 2, 1<<30 + 3, 1<<30 - 1, -1 << 30, 1 << 32, 1<<32 + 1, 1<<33 - 1, math.MaxInt, math.MaxInt - 1, math.MaxInt - 2, math.MinInt, math.MinInt + 1, math.MinInt + 2, math.MinInt + 1<<30}
	for _, from := range far {
		for _, n := range far {
			a := rec("a b", seal(n), fun(seal(0), unknown))
			wantOpen(t, a, from, l)
			wantOpen(t, a, from, l[:1])
			got, ok := subst.Open(a, from, l)
			if from < 0 || from > 1<<30 {
				if !ok || !ty.Same(got, a) {
					t.Errorf("Open of #%d from %d: %v, %v", n, from, got, ok)
				}
			} else if i := n - from; i >= 0 && i < 3 && !ty.Same(got.Args[0], l[i]) { // also where n is no seal's number any more
				t.Errorf("Open of #%d from %d: %v, %v", n, from, got, ok)
			}
		}
	}
}

// nil and empty lists are equivalent in arguments and results.
func TestEmpty(t *testing.T) {
	none := api.Ty{K: api.TRec, Labels: []string{}, Args: []api.Ty{}}
	for _, a := range []api.Ty{none, fun(none, empty), {Labels: []string{}, Args: []api.Ty{}}} {
		wantPut(t, a, []api.Bind{})
		wantPut(t, a, []api.Bind{{Name: "X", Type: none}})
		wantSeal(t, a, []string{}, 0)
		wantSeal(t, a, []string{"X"}, 0)
		wantOpen(t, a, 0, []api.Ty{})
		wantOpen(t, a, 0, []api.Ty{none})
		wantOpen(t, fun(seal(0), a), 0, []api.Ty{none})
	}
}

// roomy is a type whose lists have room behind their ends, in which marks stand.
func roomy(labels []string, args ...api.Ty) api.Ty {
	l := append(append([]string{}, labels...), "mark", "mark")
	b := append(append([]api.Ty{}, args...), seal(-9), seal(-9))
	return api.Ty{K: api.TRec, Labels: l[:len(labels)], Args: b[:len(args)]}
}

func marked(a api.Ty) bool {
	n := len(a.Args)
	l, b := a.Labels[:len(a.Labels)+2], a.Args[:n+2]
	return l[len(l)-1] == "mark" && l[len(l)-2] == "mark" && b[n].N == -9 && b[n+1].N == -9
}

// What was handed in or handed out stays as it is through all later calls.
func TestUntouched(t *testing.T) {
	inner := roomy([]string{"b"}, variable("Y"))
	a := roomy([]string{"a", "c"}, variable("X"), inner)
	b := roomy([]string{"x"}, variable("X"))
	m := []api.Bind{{Name: "X", Type: b}, {Name: "Y", Type: inner}}
	whole := []api.Ty{a, b, inner}
	before := list(a, inner, b)
	first, _ := subst.Put(a, m)
	sealed := subst.Seal(a, []string{"X", "Y"}, 3)
	opened, _ := subst.Open(sealed, 3, []api.Ty{b, inner})
	all, _ := subst.All(whole, m)
	results := []api.Ty{first, sealed, opened, {Args: all}}
	then := list(results...)
	for _, x := range results {
		subst.Put(x, []api.Bind{{Name: "X", Type: integer}, {Name: "Y", Type: b}})
		subst.Seal(x, []string{"Y", "X"}, 0)
		subst.Open(x, 2, []api.Ty{integer, b, unknown})
		subst.All(x.Args, m)
	}
	if !slices.Equal(list(results...), then) {
		t.Errorf("results have changed: %v", results)
	}
	if !slices.Equal(list(a, inner, b), before) || !marked(a) || !marked(inner) || !marked(b) {
		t.Errorf("arguments have changed: %v", whole)
	}
}

// random is a valid type of at most that depth.
func random(r *rand.Rand, deep int) api.Ty {
	if deep > 1 && r.Intn(6) > 0 {
		if r.Intn(2) == 0 {
			return fun(random(r, deep-1), random(r, deep-1))
		}
		a := api.Ty{K: api.TRec}
		for _, s := range []string{"a", "b", "c1", "d"} {
			if r.Intn(2) == 0 {
				a.Labels, a.Args = append(a.Labels, s), append(a.Args, random(r, deep-1))
			}
		}
		return a
	}
	if r.Intn(3) > 0 {
		return variable(someName(r))
	}
	return []api.Ty{integer, unknown, empty, {K: api.TTop}, {K: api.TStr}, {K: api.TBool}, seal(r.Intn(6)), seal(r.Intn(6))}[r.Intn(8)]
}

func someName(r *rand.Rand) string { return []string{"X", "Y", "Z", "X1", "Abcdefgh"}[r.Intn(5)] }

// spoiled makes something else of a type at one place, mostly something that is not valid.
func spoiled(r *rand.Rand, a api.Ty) api.Ty {
	switch r.Intn(7) {
	case 0:
		a.K = r.Intn(12) - 1
	case 1:
		a.N = r.Intn(8) - 1
	case 2:
		a.Name = []string{"", "X", "x", "Y"}[r.Intn(4)]
	case 3:
		a.Labels = strings.Fields([]string{"", "a", "b a", "X"}[r.Intn(4)])
	case 4:
		a.Args = append(a.Args[:len(a.Args):len(a.Args)], random(r, 2))
	default:
		if len(a.Args) > 0 {
			a.Args = append([]api.Ty{}, a.Args...)
			i := r.Intn(len(a.Args))
			a.Args[i] = spoiled(r, a.Args[i])
		}
	}
	return a
}

func randomBinds(r *rand.Rand, deep int) []api.Bind {
	var m []api.Bind
	for range r.Intn(5) {
		m = append(m, api.Bind{Name: someName(r), Type: random(r, 1+r.Intn(deep))})
	}
	return m
}

func randomTypes(r *rand.Rand, n, deep int) []api.Ty {
	var l []api.Ty
	for range n {
		l = append(l, random(r, 1+r.Intn(deep)))
	}
	return l
}

func randomNames(r *rand.Rand) []string {
	var l []string
	for range r.Intn(6) {
		l = append(l, someName(r))
	}
	return l
}

// P7.1 and P7.2: all calls on random types, valid ones and others, against the definitions.
func TestRandom(t *testing.T) {
	r := rand.New(rand.NewSource(7))
	fit := 0
	for range 20000 {
		a, m := random(r, 1+r.Intn(7)), randomBinds(r, 6)
		for r.Intn(2) == 0 {
			a = spoiled(r, a)
		}
		wantPut(t, a, m)
		wantSeal(t, a, randomNames(r), r.Intn(6)-1)
		wantSeal(t, a, randomNames(r), 1<<30-r.Intn(6))
		wantOpen(t, a, r.Intn(7)-1, randomTypes(r, r.Intn(5), 4))
		wantAll(t, append(randomTypes(r, r.Intn(4), 3), a), m)
		if _, ok := subst.Put(a, m); ok {
			fit++
		}
	}
	if fit < 10000 || fit > 19900 {
		t.Errorf("of the results %d fit", fit)
	}
}

// P7.1: Put in a type is putting texts, set apart by parentheses, in the type's text.
func TestRandomTexts(t *testing.T) {
	r := rand.New(rand.NewSource(8))
	words := regexp.MustCompile(`[A-Z][A-Za-z0-9]*`)
	put, great := 0, 0
	for range 20000 {
		a, m := random(r, 1+r.Intn(7)), randomBinds(r, 6)
		want := parse(t, words.ReplaceAllStringFunc(source(a), func(s string) string {
			for _, b := range m {
				if b.Name == s {
					return "(" + source(b.Type) + ")"
				}
			}
			return s
		}))
		got, ok := subst.Put(a, m)
		if ok != (ty.Nodes(want) <= api.MaxTy) || ok && !ty.Same(got, want) {
			t.Fatalf("Put(%s, %s) = %s, %v", short(a), short(m), short(got), ok)
		}
		if ok && (!ty.Right(got) || !ty.Right(a)) {
			t.Fatalf("Put(%s, %s) = %s: not valid", short(a), short(m), short(got))
		}
		if !ok {
			great++
		} else if !ty.Same(got, a) {
			put++
		}
	}
	if put < 5000 || great < 100 {
		t.Errorf("Put changes only %d types, and %d have results that are too great", put, great)
	}
}

// P7.3: Put twice is Put once.
func TestPutTwice(t *testing.T) {
	r := rand.New(rand.NewSource(9))
	fit, great, failed := 0, 0, 0
	for range 20000 {
		a, first, second := random(r, 1+r.Intn(7)), randomBinds(r, 6), randomBinds(r, 4)
		var once []api.Bind
		for _, b := range first {
			if x, ok := subst.Put(b.Type, second); ok {
				once = append(once, api.Bind{Name: b.Name, Type: x})
			}
		}
		if len(once) < len(first) {
			continue // it has no types for the single Put
		}
		want, fits := subst.Put(a, append(once, second...))
		half, ok := subst.Put(a, first)
		if !ok {
			// Nothing comes to have fewer nodes than a variable, so the whole can't fit where half of it does not.
			if failed++; fits {
				t.Fatalf("Put(%s, %s) fits only together with %s", short(a), short(first), short(second))
			}
			continue
		}
		got, ok := subst.Put(half, second)
		if ok != fits || !ty.Same(got, want) {
			t.Fatalf("Put(%s, %s), then %s: %s, %v, but at once %s, %v", short(a), short(first), short(second), short(got), ok, short(want), fits)
		}
		if ok {
			fit++
		} else {
			great++
		}
	}
	if fit < 10000 || great < 100 || failed < 100 {
		t.Errorf("%d fit, %d do not, %d fail halfway", fit, great, failed)
	}
}

// unsealed is a type without seals that could be taken for those of Seal from 100 on.
func unsealed(a api.Ty) bool {
	for _, x := range list(a) {
		if x.k == api.TSeal && x.n >= 100 {
			return false
		}
	}
	return true
}

// P7.3: sealing and opening is the same as Put, wherever the seals begin.
func TestSealThenOpen(t *testing.T) {
	r := rand.New(rand.NewSource(10))
	for range 20000 {
		a, names := random(r, 1+r.Intn(5)), randomNames(r)
		if !unsealed(a) {
			t.Fatalf("%v has other seals", a)
		}
		l := randomTypes(r, len(names), 4)
		var m []api.Bind
		for i, s := range names {
			m = append(m, api.Bind{Name: s, Type: l[i]})
		}
		want, fits := subst.Put(a, m)
		for _, from := range []int{100, 101, 1 << 20, 1<<30 - len(names)} {
			got, ok := subst.Open(subst.Seal(a, names, from), from, l)
			if ok != fits || !ty.Same(got, want) {
				t.Fatalf("%s: with %q from %d opened with %s: %s, %v, but Put gives %s, %v", short(a), names, from, short(l), short(got), ok, short(want), fits)
			}
		}
		// Only as many seals are opened as there are types for them.
		for k := range l {
			got, _ := subst.Open(subst.Seal(a, names, 100), 100, l[:k])
			if want := slowOpen(subst.Seal(a, names, 100), 100, l[:k]); len(want) <= 300 && !slices.Equal(list(got), want) {
				t.Fatalf("%s: with %q opened with %s: %s", short(a), names, short(l[:k]), short(got))
			}
		}
	}
}

// small is every type of one node with at most two leaves below it, from a choice of parts.
func small(do func(a api.Ty)) {
	leaves := []api.Ty{{}, integer, variable("X"), variable("Y"), variable(""), seal(0), seal(1), seal(2)}
	lists := [][]api.Ty{nil}
	for _, a := range leaves {
		lists = append(lists, []api.Ty{a})
		for _, b := range leaves {
			lists = append(lists, []api.Ty{a, b})
		}
	}
	for k := -1; k < 11; k++ {
		for n := -1; n < 3; n++ {
			for _, s := range []string{"", "X", "Y", "x"} {
				for _, args := range lists {
					do(api.Ty{K: k, N: n, Name: s, Labels: strings.Fields(s), Args: args})
				}
			}
		}
	}
}

// All calls on every small type.
func TestSmall(t *testing.T) {
	m := []api.Bind{{Name: "Y", Type: fun(variable("X"), seal(1))}, {Name: "X", Type: variable("Y")}, {Name: "Y", Type: integer}, {Name: "x", Type: api.Ty{}}}
	small(func(a api.Ty) {
		wantPut(t, a, m)
		wantPut(t, a, m[3:])
		wantPut(t, fun(a, variable("X")), m[1:2])
		wantSeal(t, a, []string{"Y", "x", "Y", "X", "X"}, 0)
		wantSeal(t, a, []string{"", "X"}, 1)
		wantOpen(t, a, 0, []api.Ty{integer, fun(seal(1), seal(2))})
		wantOpen(t, a, 1, []api.Ty{seal(2), seal(1)})
		wantOpen(t, a, 2, nil)
		wantAll(t, []api.Ty{a, variable("Y"), a}, m)
	})
}
