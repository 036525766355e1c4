package ty_test

import (
	"fmt"
	"math"
	"math/rand"
	"reflect"
	"regexp"
	"sort"
	"strings"
	"testing"

	"limbeck/api"
	"limbeck/ty"
)

var (
	integer = api.Ty{K: api.TInt}
	boolean = api.Ty{K: api.TBool}
	str     = api.Ty{K: api.TStr}
	top     = api.Ty{K: api.TTop}
	unknown = api.Ty{K: api.TDyn}
	empty   = api.Ty{K: api.TRec}
)

func variable(s string) api.Ty { return api.Ty{K: api.TVar, Name: s} }

func seal(n int) api.Ty { return api.Ty{K: api.TSeal, N: n} }

// fun and rec write types down without the package's help.
func fun(a, b api.Ty) api.Ty { return api.Ty{K: api.TFun, Args: []api.Ty{a, b}} }

func rec(labels string, args ...api.Ty) api.Ty {
	return api.Ty{K: api.TRec, Labels: strings.Fields(labels), Args: args}
}

func wantRight(t *testing.T, a api.Ty, want bool) {
	t.Helper()
	if got := ty.Right(a); got != want {
		t.Errorf("Right(%.300v) = %v", a, got)
	}
}

func wantSame(t *testing.T, a, b api.Ty, want bool) {
	t.Helper()
	if ty.Same(a, b) != want || ty.Same(b, a) != want {
		t.Errorf("Same(%.200v, %.200v) is not %v both ways", a, b, want)
	}
}

func wantSize(t *testing.T, a api.Ty, nodes, depth int) {
	t.Helper()
	if n, d := ty.Nodes(a), ty.Depth(a); n != nodes || d != depth {
		t.Errorf("%.200v: %d nodes, depth %d, want %d and %d", a, n, d, nodes, depth)
	}
	if got := ty.Fits(a); got != (nodes <= 300) {
		t.Errorf("Fits with %d nodes: %v", nodes, got)
	}
}

func wantVars(t *testing.T, a api.Ty, want ...string) {
	t.Helper()
	got := ty.Vars(a)
	if len(got)+len(want) > 0 && !reflect.DeepEqual(got, want) {
		t.Errorf("Vars(%.200v) = %q, want %q", a, got, want)
	}
}

func wantRec(t *testing.T, labels []string, args []api.Ty, want api.Ty) {
	t.Helper()
	if got, ok := ty.Rec(labels, args); !ok || !identical(got, want) {
		t.Errorf("Rec(%.200q, %.200v) = %.300v, %v", labels, args, got, ok)
	}
}

func wantNoRec(t *testing.T, labels []string, args []api.Ty) {
	t.Helper()
	if got, ok := ty.Rec(labels, args); ok || !identical(got, api.Ty{}) {
		t.Errorf("Rec(%.200q, %.200v) = %.300v, %v", labels, args, got, ok)
	}
}

func wantField(t *testing.T, a api.Ty, label string, want api.Ty) {
	t.Helper()
	if got, ok := ty.Field(a, label); !ok || !identical(got, want) {
		t.Errorf("Field(%.200v, %q) = %.200v, %v", a, label, got, ok)
	}
}

func wantNoField(t *testing.T, a api.Ty, label string) {
	t.Helper()
	if got, ok := ty.Field(a, label); ok || !identical(got, api.Ty{}) {
		t.Errorf("Field(%.200v, %q) = %.200v, %v", a, label, got, ok)
	}
}

// exact writes every field of a type, at every level; nil and empty lists come out alike.
func exact(a api.Ty) string {
	var args []string
	for _, x := range a.Args {
		args = append(args, exact(x))
	}
	return fmt.Sprintf("<%d %d %q %q [%s]>", a.K, a.N, a.Name, a.Labels, strings.Join(args, " "))
}

func identical(a, b api.Ty) bool { return exact(a) == exact(b) }

// The document's definitions once more, by patterns and over the list of all nodes.
var (
	lowers   = regexp.MustCompile(`^[a-z][a-z0-9]{0,7}\z`)
	uppers   = regexp.MustCompile(`^[A-Z][a-zA-Z0-9]{0,7}\z`)
	reserved = regexp.MustCompile(`^(let|in|if|then|else|fn|call|def|true|false|Int|Bool|String|Top)\z`)
)

func isName(s string) bool { return lowers.MatchString(s) && !reserved.MatchString(s) }

func isVar(s string) bool { return uppers.MatchString(s) && !reserved.MatchString(s) }

func rises(l []string) bool {
	for i := range l {
		if !isName(l[i]) || i > 0 && strings.Compare(l[i-1], l[i]) >= 0 {
			return false
		}
	}
	return true
}

// slowRight writes down the only valid type of the kind with these parts, and compares.
func slowRight(a api.Ty) bool {
	for _, x := range a.Args {
		if !slowRight(x) {
			return false
		}
	}
	want := api.Ty{K: a.K}
	switch {
	case a.K >= 1 && a.K <= 5:
	case a.K == 6 && isVar(a.Name):
		want.Name = a.Name
	case a.K == 7 && len(a.Args) == 2:
		want.Args = a.Args
	case a.K == 8 && len(a.Args) == len(a.Labels) && rises(a.Labels):
		want.Labels, want.Args = a.Labels, a.Args
	case a.K == 9 && a.N >= 0 && a.N <= 1<<30:
		want.N = a.N
	default:
		return false
	}
	return identical(a, want)
}

// levels lists the nodes of a type that are as deep as one another, from the type itself on.
func levels(a api.Ty) [][]api.Ty {
	var l [][]api.Ty
	for now := []api.Ty{a}; len(now) > 0; {
		l = append(l, now)
		var next []api.Ty
		for _, x := range now {
			next = append(next, x.Args...)
		}
		now = next
	}
	return l
}

// wantSlow holds all that is asked of one type against the definitions.
func wantSlow(t *testing.T, a api.Ty) {
	t.Helper()
	wantRight(t, a, slowRight(a))
	wantSame(t, a, a, true)
	l := levels(a)
	var all []api.Ty
	for _, x := range l {
		all = append(all, x...)
	}
	wantSize(t, a, len(all), len(l))
	kinds, names := map[int]bool{}, map[string]bool{}
	for _, x := range all {
		if kinds[x.K] = true; x.K == 6 {
			names[x.Name] = true
		}
	}
	for k := -2; k < 13; k++ {
		if ty.Has(a, k) != kinds[k] {
			t.Errorf("Has(%.200v, %d) = %v", a, k, !kinds[k])
		}
	}
	var vars []string
	for s := range names {
		vars = append(vars, s)
	}
	sort.Strings(vars)
	wantVars(t, a, vars...)
	for _, s := range append([]string{"", "x", "zz"}, a.Labels...) {
		wantSlowField(t, a, s)
	}
}

func wantSlowField(t *testing.T, a api.Ty, label string) {
	t.Helper()
	for i := range min(len(a.Labels), len(a.Args)) {
		if a.K == 8 && a.Labels[i] == label {
			wantField(t, a, label, a.Args[i])
			return
		}
	}
	wantNoField(t, a, label)
}

// P4.1: the document's examples of what is not valid.
func TestRightExamples(t *testing.T) {
	for _, a := range []api.Ty{
		{}, {K: api.TInt, N: 1}, variable("x"), {K: api.TFun, Args: []api.Ty{integer}}, rec("b a", integer, integer), seal(-1),
	} {
		wantRight(t, a, false)
		wantRight(t, fun(integer, a), false)
		wantRight(t, rec("a b c", integer, a, boolean), false)
	}
}

// P4.1: the valid types of each kind.
func TestRightOrdinary(t *testing.T) {
	for _, a := range ordinary() {
		wantRight(t, a, true)
		wantRight(t, fun(a, integer), true)
		wantRight(t, fun(unknown, fun(a, a)), true)
		wantRight(t, rec("a", rec("b1 b2", top, a)), true)
	}
}

func ordinary() []api.Ty {
	return []api.Ty{
		integer, boolean, str, top, unknown, empty,
		variable("X"), variable("Xy1"), variable("Abcdefgh"), variable("TOP"), variable("Ints"), variable("Z9999999"),
		seal(0), seal(1), seal(12), seal(1 << 30),
		fun(integer, boolean), fun(fun(top, str), variable("A")), fun(empty, seal(3)),
		rec("a", integer), rec("a b", unknown, variable("X")), rec("a a0 aa b", str, str, fun(str, str), empty), rec("abcdefgh", top),
		rec("a b c d e f g h i", top, top, top, top, top, top, top, top, top),
	}
}

// P4.1: each field of each kind's types that is set although the kind has none; lists that are empty count as none.
func TestRightOtherFields(t *testing.T) {
	for _, a := range ordinary() {
		for _, n := range []int{1, -1, 7, math.MaxInt, math.MinInt} {
			b := a
			if b.N = n; a.K == api.TSeal {
				b.N, b.Name = a.N, "X"
			}
			wantRight(t, b, false)
		}
		for _, s := range []string{"X", "x", "Int", " "} {
			b := a
			if b.Name = s; a.K == api.TVar {
				b.Name, b.N = a.Name, 1
			}
			wantRight(t, b, false)
		}
		b := a
		b.Labels = append(strings.Fields(strings.Join(a.Labels, " ")), "z")
		wantRight(t, b, false)
		b.Labels = []string{""}
		wantRight(t, b, false)
		b = a
		b.Args = append([]api.Ty{integer}, a.Args...)
		wantRight(t, b, false)
		b.Args = append(b.Args, top, unknown)
		wantRight(t, b, false)
		b = a
		if len(b.Labels) == 0 {
			b.Labels = []string{}
		}
		if len(b.Args) == 0 {
			b.Args = []api.Ty{}
		}
		wantRight(t, b, true)
	}
}

// P4.1: kinds that stand for nothing, names of variables, numbers of seals, and labels.
func TestRightWrong(t *testing.T) {
	for _, k := range []int{0, -1, 10, 11, 100, math.MaxInt, math.MinInt} {
		wantRight(t, api.Ty{K: k}, false)
		wantRight(t, api.Ty{K: k, Args: []api.Ty{integer, integer}}, false)
		wantRight(t, api.Ty{K: k, Name: "X"}, false)
	}
	for _, s := range []string{"", "x", "let", "Int", "Bool", "String", "Top", "1X", "X_", "X ", " X", "X'", "Abcdefghi", "?", "X\x00", "X\xff", "\u00c4", "X\u00e4"} {
		wantRight(t, variable(s), false)
	}
	for _, n := range []int{-1, 1<<30 + 1, 1 << 31, -1 << 30, math.MaxInt, math.MinInt} {
		wantRight(t, seal(n), false)
	}
	for _, s := range []string{"X", "let", "true", "Int", "a_", "1", "a.b", "abcdefghi", "aB", "\u00e4", "a\xff"} {
		wantRight(t, rec(s, integer), false)
	}
	for _, l := range [][]string{{""}, {"a", "a"}, {"b", "a"}, {"a", "c", "b"}, {"a", "b", "a"}, {"a", "b", "b"}, {"", "a"}, {"a", "X"}, {"a", "in"}} {
		wantRight(t, api.Ty{K: api.TRec, Labels: l, Args: make([]api.Ty, len(l))}, false)
		wantRight(t, api.Ty{K: api.TRec, Labels: l, Args: []api.Ty{top, top, top}[:len(l)]}, false)
	}
}

// P4.1: a function has two Args, a record as many as labels, and each of them is valid.
func TestRightArgs(t *testing.T) {
	for n := range 6 {
		args := []api.Ty{integer, boolean, str, top, unknown}[:n]
		wantRight(t, api.Ty{K: api.TFun, Args: args}, n == 2)
		for m := range 6 {
			wantRight(t, api.Ty{K: api.TRec, Labels: []string{"a", "b", "c", "d", "e"}[:m], Args: args}, m == n)
		}
	}
	for i := range 4 {
		args := []api.Ty{integer, empty, variable("X"), fun(top, top)}
		args[i] = fun(integer, rec("a b", unknown, seal(-1)))
		wantRight(t, rec("a b c d", args...), false)
	}
	wantRight(t, fun(variable("x"), integer), false)
	wantRight(t, fun(integer, variable("x")), false)
	// What is not valid stays so above a valid Arg.
	wantRight(t, api.Ty{K: api.TInt, Args: []api.Ty{integer}}, false)
	wantRight(t, api.Ty{K: api.TSeal, Args: []api.Ty{seal(1)}}, false)
}

// P4.1: validity has no limit of nodes, depth or fields.
func TestRightLarge(t *testing.T) {
	chain := integer
	for range 1 << 15 {
		chain = fun(chain, unknown)
	}
	wantRight(t, chain, true)
	wantRight(t, fun(top, rec("a", chain)), true)
	wide := empty
	for i := range 26 * 26 {
		wide.Labels = append(wide.Labels, string([]byte{byte('a' + i/26), byte('a' + i%26), '1'}))
		wide.Args = append(wide.Args, rec("x", integer))
	}
	wantRight(t, wide, true)
	wantSize(t, wide, 2*26*26+1, 3)
	wide.Args[26*26-1] = rec("x", variable("y"))
	wantRight(t, wide, false)
}

// Same: each field counts, at every level, in types of any sort; nil and empty lists are equal.
func TestSame(t *testing.T) {
	base := func() api.Ty {
		return api.Ty{K: 3, N: 4, Name: "n", Labels: []string{"b", "a"}, Args: []api.Ty{integer, variable("x")}}
	}
	changes := []func(a *api.Ty){
		func(a *api.Ty) { a.K = 4 }, func(a *api.Ty) { a.K = -3 }, func(a *api.Ty) { a.N = 5 }, func(a *api.Ty) { a.N = 0 },
		func(a *api.Ty) { a.Name = "" }, func(a *api.Ty) { a.Name = "N" },
		func(a *api.Ty) { a.Labels = nil }, func(a *api.Ty) { a.Labels = []string{"b"} }, func(a *api.Ty) { a.Labels = []string{"a", "b"} },
		func(a *api.Ty) { a.Labels[1] = "c" }, func(a *api.Ty) { a.Labels[0] = "c" }, func(a *api.Ty) { a.Labels = append(a.Labels, "") },
		func(a *api.Ty) { a.Args = nil }, func(a *api.Ty) { a.Args = a.Args[:1] }, func(a *api.Ty) { a.Args = append(a.Args, api.Ty{}) },
		func(a *api.Ty) { a.Args[0], a.Args[1] = a.Args[1], a.Args[0] }, func(a *api.Ty) { a.Args[0].K = 5 }, func(a *api.Ty) { a.Args[0].N = 1 },
		func(a *api.Ty) { a.Args[1].Name = "y" }, func(a *api.Ty) { a.Args[1].Labels = []string{"q"} }, func(a *api.Ty) { a.Args[1].Args = []api.Ty{{}} },
	}
	wantSame(t, base(), base(), true)
	for i, change := range changes {
		a := base()
		change(&a)
		wantSame(t, base(), a, false)
		wantSame(t, fun(base(), integer), fun(a, integer), false)
		wantSame(t, fun(integer, rec("a", base())), fun(integer, rec("a", a)), false)
		for j, other := range changes {
			b := base()
			other(&b)
			wantSame(t, a, b, i == j)
		}
	}
	wantSame(t, api.Ty{}, api.Ty{Labels: []string{}, Args: []api.Ty{}}, true)
	wantSame(t, fun(integer, empty), fun(integer, api.Ty{K: api.TRec, Labels: []string{}, Args: []api.Ty{}}), true)
	wantSame(t, api.Ty{Labels: []string{""}}, api.Ty{}, false)
	wantSame(t, api.Ty{Args: []api.Ty{{}}}, api.Ty{}, false)
	for i, a := range ordinary() {
		for j, b := range ordinary() {
			wantSame(t, a, b, i == j)
		}
	}
}

// Nodes, Depth, Has and Vars: the document's example.
func TestNodesExample(t *testing.T) {
	a := rec("a b", unknown, fun(variable("X"), integer))
	wantSize(t, a, 5, 3)
	if !ty.Has(a, api.TVar) || !ty.Has(a, api.TDyn) || ty.Has(a, api.TTop) {
		t.Errorf("Has: %v", a)
	}
	wantVars(t, a, "X")
	wantSlow(t, a)
}

// Nodes, Depth and Has look at all Args, whatever the type is.
func TestNodesAny(t *testing.T) {
	wantSize(t, api.Ty{}, 1, 1)
	wantSize(t, integer, 1, 1)
	wantSize(t, empty, 1, 1)
	wantSize(t, api.Ty{Labels: []string{"a", "b"}}, 1, 1)
	wantSize(t, api.Ty{K: api.TInt, Args: []api.Ty{{K: -7, Args: []api.Ty{{}}}, {}}}, 4, 3)
	for i := range 5 { // the deepest Arg at each place
		args := make([]api.Ty, 5)
		args[i] = fun(integer, fun(boolean, str))
		args[(i+2)%5] = fun(integer, top)
		wantSize(t, rec("a b c d e", args...), 12, 4)
	}
	for _, k := range []int{0, -1, 10, math.MaxInt, math.MinInt} {
		a := api.Ty{K: k}
		for _, b := range []api.Ty{a, fun(a, integer), fun(integer, a), rec("a b c", top, fun(str, a), unknown), {K: api.TVar, Args: []api.Ty{a}}} {
			if !ty.Has(b, k) || ty.Has(b, api.TSeal) || ty.Has(b, 99) {
				t.Errorf("Has of %d: %v", k, b)
			}
		}
	}
	if ty.Has(fun(integer, integer), 0) {
		t.Error("Has of TNone")
	}
}

// Nodes and Depth of types that are nested very deeply.
func TestNodesDeep(t *testing.T) {
	left, right := api.Ty{}, variable("Z")
	for n := 1; n < 1<<16; n++ {
		left = api.Ty{K: n, Args: []api.Ty{left}}
		right = fun(top, right)
	}
	wantSize(t, left, 1<<16, 1<<16)
	wantSize(t, right, 1<<17-1, 1<<16)
	if !ty.Has(left, 0) || !ty.Has(left, 1<<16-1) || ty.Has(left, 1<<16) {
		t.Error("Has, deeply")
	}
	wantVars(t, right, "Z")
	wantRight(t, right, true)
	wantRight(t, left, false)
	wantSame(t, right, right, true)
	wantSame(t, right, right.Args[1], false)
}

// Vars: each name once, bytewise; what is no variable has none, whatever it is named.
func TestVars(t *testing.T) {
	wantVars(t, integer)
	wantVars(t, fun(rec("a b", unknown, top), seal(2)))
	wantVars(t, variable("X"), "X")
	wantVars(t, fun(variable("Y"), fun(variable("X"), variable("Y"))), "X", "Y")
	wantVars(t, rec("a b c d e f", variable("Xa"), variable("X"), variable("Z"), variable("X1"), variable("XZ"), variable("X")), "X", "X1", "XZ", "Xa", "Z")
	wantVars(t, fun(variable("a"), fun(variable("Z"), fun(variable(""), variable("\xff")))), "", "Z", "a", "\xff")
	wantVars(t, api.Ty{K: api.TInt, Name: "A", Labels: []string{"B"}, Args: []api.Ty{{K: api.TSeal, Name: "C"}}})
	wantVars(t, api.Ty{K: api.TVar, Name: "B", Args: []api.Ty{variable("A"), {K: -1, Args: []api.Ty{variable("C")}}}}, "A", "B", "C")
}

// Fits: types with as many nodes as the limit, and with one more, in several forms.
func TestFits(t *testing.T) {
	for n := 1; n <= api.MaxTy+3; n++ {
		wide := api.Ty{K: api.TRec, Labels: make([]string, n-1), Args: make([]api.Ty, n-1)}
		deep := integer
		for range n - 1 {
			deep = rec("a", deep)
		}
		wantSize(t, wide, n, min(n, 2))
		wantSize(t, deep, n, n)
		wantSize(t, fun(wide, deep), 2*n+1, n+1)
	}
	if !ty.Fits(api.Ty{}) {
		t.Error("Fits of the zero type")
	}
}

// Fits answers at once, however much greater than its limit a type with shared parts is.
func TestFitsShared(t *testing.T) {
	a := integer
	for n := 1; n < 400; n++ {
		if got := ty.Fits(a); got != (n <= 8) { // 2 to the n, less 1
			t.Fatalf("Fits at depth %d: %v", n, got)
		}
		a = ty.Fun(a, a)
	}
}

// P4.2: Fun of any types.
func TestFun(t *testing.T) {
	wrong := []api.Ty{{}, {K: -1, N: 5, Name: "q", Labels: []string{"b", "a"}}, variable("x"), seal(-1)}
	for _, a := range append(ordinary(), wrong...) {
		for _, b := range append(ordinary(), wrong...) {
			f := ty.Fun(a, b)
			if !identical(f, api.Ty{K: 7, Args: []api.Ty{a, b}}) {
				t.Errorf("Fun(%v, %v) = %v", a, b, f)
			}
			wantRight(t, f, slowRight(a) && slowRight(b))
		}
	}
}

// P4.2: the document's examples of Rec, and ordinary records.
func TestRec(t *testing.T) {
	wantRec(t, []string{"b", "a"}, []api.Ty{integer, boolean}, rec("a b", boolean, integer))
	wantNoRec(t, []string{"a", "a"}, []api.Ty{integer, integer})
	wantNoRec(t, []string{"a"}, nil)
	wantRec(t, nil, nil, empty)
	wantRec(t, []string{}, []api.Ty{}, empty)
	wantRec(t, []string{"x"}, []api.Ty{fun(variable("X"), unknown)}, rec("x", fun(variable("X"), unknown)))
	wantRec(t, []string{"a", "b"}, []api.Ty{top, top}, rec("a b", top, top))
	wantRec(t, []string{"ab", "b", "a1", "a", "aa", "abcdefgh", "a0"}, []api.Ty{seal(0), seal(1), seal(2), seal(3), seal(4), seal(5), seal(6)},
		rec("a a0 a1 aa ab abcdefgh b", seal(3), seal(6), seal(2), seal(4), seal(0), seal(5), seal(1)))
	// Types are taken as they are.
	wantRec(t, []string{"b", "a"}, []api.Ty{{}, {K: 77, N: 1, Labels: []string{"b", "a"}}}, rec("a b", api.Ty{K: 77, N: 1, Labels: []string{"b", "a"}}, api.Ty{}))
}

// P4.2: labels and types that make no record.
func TestNoRec(t *testing.T) {
	types := []api.Ty{integer, boolean, str, top, unknown}
	labels := []string{"e", "b", "d", "a", "c"}
	for n := range 6 {
		for m := range 6 {
			if n != m {
				wantNoRec(t, labels[:n], types[:m])
			}
		}
	}
	for i := range 5 {
		for _, s := range []string{"", "X", "let", "in", "true", "Int", "Top", "a_", "1", "a b", "abcdefghi", "aB", "\u00e4", "a\xff", "a\x00"} {
			l := strings.Fields("e b d a c")
			l[i] = s
			wantNoRec(t, l, types)
			wantNoRec(t, []string{s}, types[:1])
		}
		for j := range 5 {
			if l := strings.Fields("e b d a c"); i != j {
				l[i] = l[j]
				wantNoRec(t, l, types)
			}
		}
	}
	wantNoRec(t, nil, types[:1])
	wantNoRec(t, []string{"a", "b", "a"}, types[:3])
	wantNoRec(t, []string{"a", "a", "a"}, types[:3])
}

// P4.2: Field of records that are valid, and of what is not.
func TestField(t *testing.T) {
	a := rec("a b c", integer, fun(top, top), unknown)
	wantField(t, a, "a", integer)
	wantField(t, a, "b", fun(top, top))
	wantField(t, a, "c", unknown)
	for _, s := range []string{"", "d", "A", "a ", "aa", "let"} {
		wantNoField(t, a, s)
		wantNoField(t, empty, s)
	}
	for k := -1; k < 12; k++ { // no other kind has fields, even with labels
		if b := a; k != api.TRec {
			b.K = k
			wantNoField(t, b, "a")
		}
	}
	twice := rec("b a b a", integer, boolean, str, top)
	wantField(t, twice, "b", integer)
	wantField(t, twice, "a", boolean)
	short := api.Ty{K: api.TRec, N: 3, Name: "x", Labels: []string{"a", "", "b", "c"}, Args: []api.Ty{integer, boolean}}
	wantField(t, short, "a", integer)
	wantField(t, short, "", boolean)
	wantNoField(t, short, "b")
	wantNoField(t, short, "c")
	wantNoField(t, api.Ty{K: api.TRec, Labels: []string{"a"}}, "a")
	wantField(t, api.Ty{K: api.TRec, Labels: []string{"X"}, Args: []api.Ty{{}, top, top}}, "X", api.Ty{})
	wantNoField(t, api.Ty{K: api.TRec, Args: []api.Ty{top}}, "")
	wantNoField(t, fun(integer, a), "a")
}

// permute calls do with each order of the numbers below n.
func permute(n int, do func(l []int)) {
	var walk func(l []int)
	walk = func(l []int) {
		if len(l) == n {
			do(l)
			return
		}
	next:
		for i := range n {
			for _, j := range l {
				if i == j {
					continue next
				}
			}
			walk(append(l[:len(l):len(l)], i))
		}
	}
	walk(nil)
}

// P4.3: the fields of a record in all orders, each with a type of its own; what is handed in stays as it was.
func TestOrders(t *testing.T) {
	names := []string{"a", "a1", "aa", "b", "c9", "z"}
	for n := range len(names) + 1 {
		var first api.Ty
		permute(n, func(l []int) {
			labels, args := []string{}, []api.Ty{}
			for _, i := range l {
				labels, args = append(labels, names[i]), append(args, fun(seal(i), unknown))
			}
			before := exact(api.Ty{Labels: labels, Args: args})
			r, ok := ty.Rec(labels, args)
			if !ok || exact(api.Ty{Labels: labels, Args: args}) != before {
				t.Fatalf("Rec(%q, %v): %v, or its arguments have changed", labels, args, ok)
			}
			if first.K == 0 {
				first = r
			}
			wantSame(t, r, first, true)
			wantRight(t, r, true)
			for i, s := range labels {
				wantField(t, r, s, args[i])
			}
		})
	}
}

// P4.3: records with many fields, shuffled.
func TestShuffled(t *testing.T) {
	r := rand.New(rand.NewSource(5))
	for range 300 {
		n := 2 + r.Intn(200)
		want := empty
		for i := range n {
			want.Labels = append(want.Labels, fmt.Sprintf("f%03d", i))
			want.Args = append(want.Args, rec("x", seal(i)))
		}
		var labels []string
		var args []api.Ty
		for _, i := range r.Perm(n) {
			labels, args = append(labels, want.Labels[i]), append(args, want.Args[i])
		}
		wantRec(t, labels, args, want)
		i := r.Intn(n)
		labels[i] = labels[(i+1+r.Intn(n-1))%n]
		wantNoRec(t, labels, args)
	}
}

// change makes something else of a type at one place, mostly something wrong.
func change(r *rand.Rand, a api.Ty) api.Ty {
	switch r.Intn(8) {
	case 0:
		a.K = r.Intn(12) - 1
	case 1:
		a.N = r.Intn(3) - 1
	case 2:
		a.Name = []string{"", "X", "x", "Top"}[r.Intn(4)]
	case 3:
		a.Labels = strings.Fields([]string{"", "a", "b a", "a b", "a a", "X", "in a"}[r.Intn(7)])
	case 4:
		a.Args = append(a.Args[:len(a.Args):len(a.Args)], random(r, 2))
	case 5:
		if len(a.Args) > 0 {
			a.Args = a.Args[1:]
		}
	default:
		if len(a.Args) > 0 {
			i := r.Intn(len(a.Args))
			a.Args = append([]api.Ty{}, a.Args...)
			a.Args[i] = change(r, a.Args[i])
		}
	}
	return a
}

// random is a valid type of at most that depth.
func random(r *rand.Rand, deep int) api.Ty {
	if deep > 1 && r.Intn(4) > 0 {
		if r.Intn(2) == 0 {
			return fun(random(r, deep-1), random(r, deep-1))
		}
		a := api.Ty{K: api.TRec}
		for _, s := range []string{"a", "b", "c1", "d"} {
			if r.Intn(2) == 0 {
				a.Labels, a.Args = append(a.Labels, s), append(a.Args, random(r, deep-1))
			}
		}
		return a
	}
	return []api.Ty{integer, boolean, str, top, unknown, variable("X"), variable("Y2"), variable("Aa"), seal(r.Intn(3)), seal(1 << 30), empty}[r.Intn(11)]
}

// All calls on random types, valid ones and others, against the definitions.
func TestRandom(t *testing.T) {
	r := rand.New(rand.NewSource(6))
	last := integer
	right := 0
	for range 20000 {
		a := random(r, 1+r.Intn(6))
		wantRight(t, a, true)
		wantSlow(t, a)
		b := change(r, a)
		for r.Intn(2) == 0 {
			b = change(r, b)
		}
		wantSlow(t, b)
		wantSame(t, a, b, identical(a, b))
		wantSame(t, b, last, identical(b, last))
		if last = b; ty.Right(b) {
			right++
		}
	}
	if right < 1000 || right > 19000 {
		t.Errorf("of the changed types %d are valid", right)
	}
}

// All calls on every type of one node with one or two leaves below it, from a choice of parts.
func TestSmall(t *testing.T) {
	leaves := []api.Ty{{}, integer, variable("X"), variable("x"), seal(0)}
	lists := [][]api.Ty{nil}
	for _, a := range leaves {
		lists = append(lists, []api.Ty{a})
		for _, b := range leaves {
			lists = append(lists, []api.Ty{a, b})
		}
	}
	for k := -1; k < 12; k++ {
		for _, n := range []int{-1, 0, 1, 1 << 30, 1<<30 + 1} {
			for _, s := range []string{"", "X", "x", "Int"} {
				for _, l := range []string{"", "a", "X", "a b", "b a", "a a"} {
					for _, args := range lists {
						wantSlow(t, api.Ty{K: k, N: n, Name: s, Labels: strings.Fields(l), Args: args})
					}
				}
			}
		}
	}
}
