package prec_test

import (
	"fmt"
	"math"
	"math/rand"
	"slices"
	"strings"
	"testing"

	"limbeck/api"
	"limbeck/prec"
	"limbeck/ty"
	"limbeck/tyfmt"
	"limbeck/tyread"
)

var (
	integer = api.Ty{K: api.TInt}
	boolean = api.Ty{K: api.TBool}
	unknown = api.Ty{K: api.TDyn}
	empty   = api.Ty{K: api.TRec}
)

func variable(s string) api.Ty { return api.Ty{K: api.TVar, Name: s} }

func seal(n int) api.Ty { return api.Ty{K: api.TSeal, N: n} }

func fun(a, b api.Ty) api.Ty { return api.Ty{K: api.TFun, Args: []api.Ty{a, b}} }

func rec(labels string, args ...api.Ty) api.Ty {
	return api.Ty{K: api.TRec, Labels: strings.Fields(labels), Args: args}
}

// wide has that many Args that are alike.
func wide(n int, arg api.Ty) api.Ty {
	return api.Ty{K: api.TRec, Args: slices.Repeat([]api.Ty{arg}, n)}
}

// deep is that type within so many functions, each with another type beside it.
func deep(n int, a, beside api.Ty) api.Ty {
	for range n {
		a = fun(beside, a)
	}
	return a
}

// left is that type within so many functions, each with another type behind it.
func left(n int, a, behind api.Ty) api.Ty {
	for range n {
		a = fun(a, behind)
	}
	return a
}

// shared takes little memory, and has 2 to the n copies of that type.
func shared(n int, a api.Ty) api.Ty {
	for range n {
		a = fun(a, a)
	}
	return a
}

// parse is the type of a text, in which Q7 stands for the seal 7.
func parse(t *testing.T, s string) api.Ty {
	t.Helper()
	a, err := tyread.Parse(s)
	if err != nil {
		t.Fatalf("%q is no type", s)
	}
	var walk func(a api.Ty) api.Ty
	walk = func(a api.Ty) api.Ty {
		n := 0
		if _, err := fmt.Sscanf(a.Name, "Q%d", &n); err == nil {
			return seal(n)
		}
		for i := range a.Args { // this type is nobody else's yet
			a.Args[i] = walk(a.Args[i])
		}
		return a
	}
	return walk(a)
}

// types is the types of texts that stand apart by semicolons.
func types(t *testing.T, s string) []api.Ty {
	t.Helper()
	var l []api.Ty
	for _, x := range strings.Split(s, ";") {
		if strings.TrimSpace(x) != "" {
			l = append(l, parse(t, x))
		}
	}
	return l
}

// binds is the bindings that a text gives, as in "X = Int; Y = X -> X".
func binds(t *testing.T, s string) []api.Bind {
	t.Helper()
	var m []api.Bind
	for _, x := range strings.Split(s, ";") {
		if name, text, ok := strings.Cut(x, "="); ok {
			m = append(m, api.Bind{Name: strings.TrimSpace(name), Type: parse(t, text)})
		}
	}
	return m
}

// node is a node of a type without its Args, and their number.
type node struct {
	k, n         int
	name, labels string
	args         int
}

// open is the node that ? is.
var open = node{k: 5}

// list has the nodes of the types in order, each one before those below it.
func list(l ...api.Ty) []node {
	var out []node
	for rest := [][]api.Ty{l}; len(rest) > 0; {
		last := len(rest) - 1
		if len(rest[last]) == 0 {
			rest = rest[:last]
			continue
		}
		a := rest[last][0]
		rest[last] = rest[last][1:]
		x := node{a.K, a.N, a.Name, "", len(a.Args)}
		if len(a.Labels) > 0 {
			x.labels = fmt.Sprintf("%q", a.Labels)
		}
		out = append(out, x)
		rest = append(rest, a.Args)
	}
	return out
}

// whole is how many of the nodes from the first one on are that one and those below it.
func whole(l []node) int {
	n := 0
	for rest := 1; rest > 0; n++ {
		rest += l[n].args - 1
	}
	return n
}

// slowLess is the document's definition over the lists of nodes: ? in b stands for a node of a with all below it.
func slowLess(a, b api.Ty) bool {
	l, m := list(a), list(b)
	for ; len(m) > 0; m = m[1:] {
		if m[0] == open {
			l = l[whole(l):]
		} else if m[0] == l[0] {
			l = l[1:]
		} else {
			return false
		}
	}
	return true
}

// slowCut is the list of nodes with a single one in place of the node k and all below it.
func slowCut(a api.Ty, k int) ([]node, bool) {
	l := list(a)
	if k < 0 || k >= len(l) {
		return nil, false
	}
	return slices.Concat(l[:k], []node{open}, l[k+whole(l[k:]):]), true
}

// slowFuse goes along both lists, and takes what the other one has where one has ?.
func slowFuse(a, b api.Ty) ([]node, bool) {
	var out []node
	for l, m := list(a), list(b); len(l) > 0; {
		i, j := 1, 1
		switch {
		case l[0] == open:
			j = whole(m)
			out = append(out, m[:j]...)
		case m[0] == open:
			i = whole(l)
			out = append(out, l[:i]...)
		case l[0] != m[0]:
			return nil, false
		default:
			out = append(out, l[0])
		}
		l, m = l[i:], m[j:]
	}
	return out, true
}

// short writes a value for a message: a type may be great.
func short(x any) string {
	s := fmt.Sprint(x)
	return s[:min(len(s), 300)]
}

// kept fails if what one of the types holds is no longer what it was before the call.
func kept(t *testing.T, call func(), l ...api.Ty) {
	t.Helper()
	before := list(l...)
	call()
	if !slices.Equal(list(l...), before) {
		t.Errorf("an argument has changed: %s", short(l))
	}
}

// answered reports whether an answer has these nodes, or is nothing beside false.
func answered(got api.Ty, ok bool, want []node, wanted bool) bool {
	if !wanted {
		return !ok && ty.Same(got, api.Ty{})
	}
	return ok && slices.Equal(list(got), want)
}

func wantLess(t *testing.T, a, b api.Ty) {
	t.Helper()
	kept(t, func() {
		if got, want := prec.Less(a, b), slowLess(a, b); got != want {
			t.Errorf("Less(%s, %s) = %v", short(a), short(b), got)
		}
	}, a, b)
}

func wantCut(t *testing.T, a api.Ty, k int) {
	t.Helper()
	kept(t, func() {
		want, wanted := slowCut(a, k)
		if got, ok := prec.Cut(a, k); !answered(got, ok, want, wanted) {
			t.Errorf("Cut(%s, %d) = %s, %v", short(a), k, short(got), ok)
		}
	}, a)
}

func wantFuse(t *testing.T, a, b api.Ty) {
	t.Helper()
	kept(t, func() {
		want, wanted := slowFuse(a, b)
		if got, ok := prec.Fuse(a, b); !answered(got, ok, want, wanted) {
			t.Errorf("Fuse(%s, %s) = %s, %v", short(a), short(b), short(got), ok)
		}
	}, a, b)
}

// wantAll holds All, and Binds of the same types, against the definition.
func wantAll(t *testing.T, a, b []api.Ty) {
	t.Helper()
	want := len(a) == len(b)
	for i := range min(len(a), len(b)) {
		want = want && slowLess(a[i], b[i])
	}
	kept(t, func() {
		if got := prec.All(a, b); got != want {
			t.Errorf("All(%s, %s) = %v", short(a), short(b), got)
		}
		if got := prec.Binds(named(a), named(b)); got != want {
			t.Errorf("Binds(%s, %s) = %v", short(named(a)), short(named(b)), got)
		}
	}, append(slices.Clone(a), b...)...)
}

// named is bindings of these types, each with a name of its own.
func named(l []api.Ty) []api.Bind {
	var m []api.Bind
	for i, a := range l {
		m = append(m, api.Bind{Name: fmt.Sprint("x", i), Type: a})
	}
	return m
}

func wantBinds(t *testing.T, a, b []api.Bind, want bool) {
	t.Helper()
	if got := prec.Binds(a, b); got != want {
		t.Errorf("Binds(%s, %s) = %v", short(a), short(b), got)
	}
}

// everywhere compares two types, in both orders, in all ways.
func everywhere(t *testing.T, a, b api.Ty) {
	t.Helper()
	wantLess(t, a, b)
	wantLess(t, b, a)
	wantFuse(t, a, b)
	wantFuse(t, b, a)
	wantAll(t, []api.Ty{integer, a}, []api.Ty{unknown, b})
	wantAll(t, []api.Ty{b, integer}, []api.Ty{a, unknown})
}

func wantLessText(t *testing.T, a, b string, want bool) {
	t.Helper()
	if got := prec.Less(parse(t, a), parse(t, b)); got != want {
		t.Errorf("Less(%s, %s) = %v", a, b, got)
	}
	everywhere(t, parse(t, a), parse(t, b))
}

func wantCutText(t *testing.T, a string, k int, want string) {
	t.Helper()
	got, ok := prec.Cut(parse(t, a), k)
	if s := tyfmt.Show(got); !ok || s != want {
		t.Errorf("Cut(%s, %d) = %s, %v", a, k, s, ok)
	}
	wantCut(t, parse(t, a), k)
}

// wantFuseText holds Fuse in both orders against a text; there is no type if it is empty.
func wantFuseText(t *testing.T, a, b, want string) {
	t.Helper()
	for range 2 {
		got, ok := prec.Fuse(parse(t, a), parse(t, b))
		if s := tyfmt.Show(got); s != want || ok != (want != "") {
			t.Errorf("Fuse(%s, %s) = %s, %v", a, b, s, ok)
		}
		a, b = b, a
	}
	everywhere(t, parse(t, a), parse(t, b))
}

// The document's examples: P8.1 has Less, P8.2 Cut and Fuse.
func TestExamples(t *testing.T) {
	wantLessText(t, "Int", "?", true)
	wantLessText(t, "Int -> Bool", "? -> Bool", true)
	wantLessText(t, "?", "Int", false)
	wantLessText(t, "Int -> Bool", "Bool -> Bool", false)
	wantCutText(t, "(Int -> Bool) -> {a: Int, b: ?}", 3, "(Int -> ?) -> {a: Int, b: ?}")
	if got, ok := prec.Cut(integer, 1); ok || !ty.Same(got, api.Ty{}) {
		t.Errorf("Cut of Int at 1: %v, %v", got, ok)
	}
	wantFuseText(t, "? -> Bool", "Int -> ?", "Int -> Bool")
	wantFuseText(t, "Int -> Bool", "Int -> Int", "")
}

// P8.1: types of each kind against one another.
func TestLess(t *testing.T) {
	for _, s := range []string{"Int", "Bool", "String", "Top", "?", "X", "Q0", "Int -> Int", "{}", "{a: Int}", "? -> ?", "{a: ?}"} {
		wantLessText(t, s, s, true)
		wantLessText(t, s, "?", true)
		wantLessText(t, "?", s, s == "?")
		for _, x := range []string{"Int", "Bool", "String", "Top", "X", "Y", "Q0", "Q1", "{}", "{b: ?}"} {
			wantLessText(t, s, x, s == x)
		}
	}
	wantLessText(t, "Q7", "Q8", false)
	wantLessText(t, "X", "Top", false)
	wantLessText(t, "Top", "X", false)
}

// P8.1: precision does not follow subtyping: both parts of a function, and each field, are compared the same way round.
func TestLessParts(t *testing.T) {
	wantLessText(t, "Int -> Bool", "Int -> ?", true)
	wantLessText(t, "Int -> Bool", "? -> ?", true)
	wantLessText(t, "? -> Bool", "Int -> ?", false)
	wantLessText(t, "? -> Bool", "Int -> Bool", false)
	wantLessText(t, "Top -> Int", "Int -> Top", false)
	wantLessText(t, "{a: Int, b: Bool}", "{a: Int}", false)
	wantLessText(t, "{a: Int}", "{a: Int, b: Bool}", false)
	wantLessText(t, "{a: Int}", "{}", false)
	wantLessText(t, "{}", "{a: ?}", false)
	wantLessText(t, "{a: Int}", "{b: Int}", false)
	wantLessText(t, "{a: Int}", "{b: ?}", false)
	wantLessText(t, "{a: Int}", "{a: Top}", false)
	wantLessText(t, "{a: Int, b: X}", "{a: ?, b: ?}", true)
	wantLessText(t, "{a: Int, b: X}", "{a: ?, b: X}", true)
	wantLessText(t, "{a: Int, b: X}", "{a: Int, b: Y}", false)
	wantLessText(t, "{a: Int, b: ?}", "{a: ?, b: X}", false)
	wantLessText(t, "{a: {b: Int -> Q3}, c: ?}", "{a: {b: Int -> ?}, c: ?}", true)
	wantLessText(t, "{a: {b: Int -> Q3}, c: ?}", "{a: {b: ?}, c: ?}", true)
	wantLessText(t, "{a: {b: Int -> Q3}, c: ?}", "{a: ?, c: ?}", true)
	wantLessText(t, "{a: {b: Int -> Q3}, c: ?}", "{a: ? -> ?, c: ?}", false)
	wantLessText(t, "(Int -> Bool) -> Int", "? -> Int", true)
	wantLessText(t, "(Int -> Bool) -> Int", "Int -> ?", false)
	wantLessText(t, "Int -> Bool -> Int", "Int -> ?", true)
	wantLessText(t, "Int -> Bool -> Int", "(Int -> Bool) -> ?", false)
	wantLessText(t, "Int -> ? -> Int", "Int -> Bool -> ?", false)
}

// odd is types that are not valid, many of which have the kind of ? and yet are something else.
func odd() []api.Ty {
	l := []api.Ty{
		{}, {K: api.TDyn, N: 1}, {K: api.TDyn, N: -1}, {K: api.TDyn, Name: "X"}, {K: api.TDyn, Name: "\x00"},
		{K: api.TDyn, Labels: []string{""}}, {K: api.TDyn, Labels: []string{"a"}}, {K: api.TDyn, Args: []api.Ty{unknown}}, {K: api.TDyn, Args: []api.Ty{{}}},
		{K: api.TDyn, N: 3, Name: "Y", Labels: []string{"a"}, Args: []api.Ty{integer}}, {K: api.TDyn, N: 3, Name: "Y", Labels: []string{"a"}, Args: []api.Ty{unknown}},
		{Args: []api.Ty{unknown}}, {Args: []api.Ty{{}}}, {N: 1}, {Name: "X"}, {Labels: []string{"a"}},
		{K: api.TInt, N: 1}, {K: api.TInt, N: 2}, {K: api.TInt, Name: "X"}, {K: api.TInt, Name: "Y"}, {K: api.TInt, Labels: []string{"b"}}, {K: api.TInt, Labels: []string{"c"}},
		{K: api.TInt, Args: []api.Ty{integer}}, {K: api.TInt, Args: []api.Ty{unknown}}, {K: api.TInt, Args: []api.Ty{unknown, unknown}},
		{K: api.TVar, Name: "X", N: 4, Labels: []string{"X"}, Args: []api.Ty{integer, variable("Y")}}, {K: api.TVar, Name: "X", N: 4, Labels: []string{"X"}, Args: []api.Ty{integer, unknown}},
		{K: api.TVar, Name: "X", N: 5, Labels: []string{"X"}, Args: []api.Ty{integer, unknown}}, {K: api.TVar, Name: "X", N: 4, Labels: []string{"Y"}, Args: []api.Ty{integer, unknown}},
		{K: api.TSeal, N: -1}, {K: api.TSeal, N: math.MinInt}, {K: api.TSeal, N: math.MaxInt}, {K: api.TSeal, N: 1, Name: "Z"},
		{K: api.TFun, Args: []api.Ty{integer}}, {K: api.TFun, Args: []api.Ty{unknown}}, {K: api.TFun}, {K: api.TFun, Args: []api.Ty{integer, unknown, boolean}}, {K: api.TFun, Args: []api.Ty{unknown, integer, unknown}},
		rec("b a", integer, unknown), rec("b a", unknown, integer), rec("a a", integer, unknown), rec("a", integer, unknown), rec("", integer, unknown), rec("a b", integer), rec("a b"), rec("b a"), {K: api.TRec, Labels: []string{"a b"}}, {K: api.TRec, Labels: []string{"a", ""}}, {K: api.TRec, Labels: []string{"", "a"}},
		{K: -5, N: -5, Name: "X", Labels: []string{"q"}, Args: []api.Ty{{K: 77, Args: []api.Ty{unknown}}}}, {K: -5, N: -5, Name: "X", Labels: []string{"q"}, Args: []api.Ty{unknown}},
		{K: math.MinInt, Args: []api.Ty{unknown}}, {K: math.MaxInt, Args: []api.Ty{unknown}}, {K: math.MaxInt, Args: []api.Ty{boolean}}, {K: api.TSeal + 1},
		{K: api.TDyn + 1<<32}, {K: api.TInt, N: 1 << 32}, variable(""), variable("x"), variable("\xff"), variable("\xfe"),
	}
	return append(l, integer, unknown, empty, variable("X"), seal(1), seal(0), fun(unknown, integer), fun(integer, unknown), rec("a", unknown))
}

// Types that are not valid are compared field by field; only what has nothing but its kind is ?.
func TestOdd(t *testing.T) {
	l := odd()
	for i, a := range l {
		for j, b := range l {
			everywhere(t, a, b)
			everywhere(t, fun(a, b), fun(b, a))
			everywhere(t, fun(a, b), rec("a b", a, b))
			everywhere(t, api.Ty{K: 20, Args: []api.Ty{a, b}}, api.Ty{K: 20, Args: []api.Ty{unknown, b}})
			if got := prec.Less(a, b) && prec.Less(b, a); got != (i == j) {
				t.Errorf("%v and %v are one another's: %v", a, b, got)
			}
		}
		for k := -2; k < 6; k++ {
			wantCut(t, a, k)
			wantCut(t, fun(a, rec("a b", a, a)), k*2)
		}
	}
}

// What is less precise than everything is ?, and nothing that is like it.
func TestUnknown(t *testing.T) {
	for _, a := range odd() {
		if !prec.Less(a, unknown) || !prec.Less(a, api.Ty{K: 5, Labels: []string{}, Args: []api.Ty{}}) {
			t.Errorf("%v and ?", a)
		}
		got, ok := prec.Fuse(a, unknown)
		back, too := prec.Fuse(unknown, a)
		if !ok || !too || !ty.Same(got, a) || !ty.Same(back, a) {
			t.Errorf("Fuse of %v and ?: %v, %v", a, got, back)
		}
		if a.K == api.TDyn && !ty.Same(a, unknown) && (prec.Less(integer, a) || prec.Less(unknown, a)) {
			t.Errorf("%v counts as ?", a)
		}
	}
}

// P8.1: All with lists of any lengths, and a pair that fails at each place.
func TestAll(t *testing.T) {
	precise, open := types(t, "Int; Int -> Bool; {a: X}; Q4; ?"), types(t, "?; ? -> Bool; {a: ?}; Q4; ?")
	for i := range 6 {
		for j := range 6 {
			if got := prec.All(precise[:i], open[:j]); got != (i == j) {
				t.Errorf("All of %d and %d: %v", i, j, got)
			}
			wantAll(t, precise[:i], open[:j])
			wantAll(t, open[:i], precise[:j])
		}
	}
	for i := range 5 {
		for _, b := range types(t, "Bool; Bool -> Bool; {b: X}; Q5; Top") {
			l := slices.Clone(open)
			l[i] = b
			if prec.All(precise, l) {
				t.Errorf("All(%v, %v)", precise, l)
			}
			wantAll(t, precise, l)
			wantAll(t, l, precise)
			wantAll(t, l, open)
		}
	}
	wantAll(t, types(t, "Int; ?"), types(t, "?; Int"))
	wantAll(t, types(t, "Int; Bool"), types(t, "Bool; Int"))
	wantAll(t, nil, types(t, "?"))
	wantAll(t, types(t, "?"), nil)
}

// P8.1: Binds asks for the same names at the same places, whatever the names are.
func TestBinds(t *testing.T) {
	wantBinds(t, nil, nil, true)
	wantBinds(t, binds(t, "x = Int"), binds(t, "x = ?"), true)
	wantBinds(t, binds(t, "x = ?"), binds(t, "x = Int"), false)
	wantBinds(t, binds(t, "x = Int"), binds(t, "y = ?"), false)
	wantBinds(t, binds(t, "x = Int"), binds(t, "y = Int"), false)
	wantBinds(t, binds(t, "x = Int"), nil, false)
	wantBinds(t, nil, binds(t, "x = ?"), false)
	wantBinds(t, binds(t, "x = Int; y = Bool"), binds(t, "x = ?"), false)
	wantBinds(t, binds(t, "x = Int"), binds(t, "x = ?; y = ?"), false)
	wantBinds(t, binds(t, "X = Int; Y = X -> X"), binds(t, "X = Int; Y = X -> X"), true)
	wantBinds(t, binds(t, "X = Int; Y = X -> X"), binds(t, "X = ?; Y = ? -> X"), true)
	wantBinds(t, binds(t, "X = Int; Y = X -> X"), binds(t, "X = ?; Y = ? -> Y"), false)
	wantBinds(t, binds(t, "X = Int; Y = X -> X"), binds(t, "X = Bool; Y = ?"), false)
	wantBinds(t, binds(t, "X = Int; Y = Int"), binds(t, "Y = Int; X = Int"), false)
	wantBinds(t, binds(t, "X = Int; Y = Int"), binds(t, "X = Int; Z = Int"), false)
	wantBinds(t, binds(t, "X = Int; Y = Int"), binds(t, "Z = Int; Y = Int"), false)
	wantBinds(t, binds(t, "X = Int; X = Bool"), binds(t, "X = ?; X = Bool"), true)
	wantBinds(t, binds(t, "X = Int; X = Bool"), binds(t, "X = Bool; X = Int"), false)
	names := []string{"", "x", "X", "x ", "x\x00", "\xff", "\xfe", "let", "Int", "�", strings.Repeat("a", 1000), strings.Repeat("a", 999) + "b"}
	for _, s := range names {
		for _, x := range names {
			for _, a := range []api.Ty{integer, unknown, {}} {
				wantBinds(t, []api.Bind{{Name: s, Type: a}}, []api.Bind{{Name: x, Type: unknown}}, s == x)
				wantBinds(t, []api.Bind{{Type: a}, {Name: s, Type: a}, {}}, []api.Bind{{Type: a}, {Name: x, Type: a}, {}}, s == x)
			}
		}
	}
}

// P8.2: Cut at each place of a type, and at those that it does not have.
func TestCut(t *testing.T) {
	const a = "(Int -> Bool) -> {a: X -> Q3, b: {c: Top}, d: ?}"
	for k, want := range []string{
		"?", "? -> {a: X -> Q3, b: {c: Top}, d: ?}", "(? -> Bool) -> {a: X -> Q3, b: {c: Top}, d: ?}", "(Int -> ?) -> {a: X -> Q3, b: {c: Top}, d: ?}",
		"(Int -> Bool) -> ?", "(Int -> Bool) -> {a: ?, b: {c: Top}, d: ?}", "(Int -> Bool) -> {a: ? -> Q3, b: {c: Top}, d: ?}", "(Int -> Bool) -> {a: X -> ?, b: {c: Top}, d: ?}",
		"(Int -> Bool) -> {a: X -> Q3, b: ?, d: ?}", "(Int -> Bool) -> {a: X -> Q3, b: {c: ?}, d: ?}", a,
	} {
		wantCutText(t, a, k, strings.ReplaceAll(want, "Q", "#"))
	}
	for _, s := range []string{a, "Int", "?", "{}", "X", "Q0", "{a: {}}", "Int -> Int", "Int -> Int -> Int", "(Int -> Int) -> Int"} {
		n := ty.Nodes(parse(t, s))
		for k := -3; k < n+4; k++ {
			wantCut(t, parse(t, s), k)
			if _, ok := prec.Cut(parse(t, s), k); ok != (0 <= k && k < n) {
				t.Errorf("Cut(%s, %d): %v", s, k, ok)
			}
		}
		for _, k := range []int{math.MinInt, math.MinInt + 1, math.MaxInt, math.MaxInt - 1, -1 << 32, 1 << 32, 1<<32 + 1, -1<<32 + 1, 1 << 31, -1 << 31} {
			wantCut(t, parse(t, s), k)
		}
	}
}

// P8.2: Fuse takes the more precise part at each place.
func TestFuse(t *testing.T) {
	wantFuseText(t, "?", "?", "?")
	wantFuseText(t, "Int", "?", "Int")
	wantFuseText(t, "Int", "Int", "Int")
	wantFuseText(t, "Int", "Bool", "")
	wantFuseText(t, "Int", "Top", "")
	wantFuseText(t, "X", "X", "X")
	wantFuseText(t, "X", "Y", "")
	wantFuseText(t, "X", "?", "X")
	wantFuseText(t, "Q1", "Q1", "#1")
	wantFuseText(t, "Q1", "Q2", "")
	wantFuseText(t, "{}", "{}", "{}")
	wantFuseText(t, "{}", "{a: ?}", "")
	wantFuseText(t, "{a: ?}", "{b: ?}", "")
	wantFuseText(t, "{a: ?}", "{a: ?, b: ?}", "")
	wantFuseText(t, "{}", "? -> ?", "")
	wantFuseText(t, "? -> ?", "Int -> Int", "Int -> Int")
	wantFuseText(t, "? -> ?", "? -> ?", "? -> ?")
	wantFuseText(t, "? -> Int", "? -> Bool", "")
	wantFuseText(t, "Int -> ?", "Bool -> ?", "")
	wantFuseText(t, "(Int -> ?) -> ?", "? -> Bool", "(Int -> ?) -> Bool")
	wantFuseText(t, "(Int -> ?) -> ?", "(? -> {a: ?}) -> Bool", "(Int -> {a: ?}) -> Bool")
	wantFuseText(t, "{a: ?, b: Int, c: X -> ?}", "{a: Bool, b: ?, c: ? -> Q2}", "{a: Bool, b: Int, c: X -> #2}")
	wantFuseText(t, "{a: ?, b: Int, c: X -> ?}", "{a: Bool, b: ?, c: Y -> ?}", "")
	wantFuseText(t, "{a: {b: {c: ?, d: Top}}}", "{a: {b: {c: String, d: ?}}}", "{a: {b: {c: String, d: Top}}}")
	wantFuseText(t, "{a: Int, b: {c: ?, d: Top}}", "{a: ?, b: {c: String, d: Int}}", "")
}

// Fuse has no limit of nodes: a result may have more than MaxTy, though no argument has.
func TestFuseLarge(t *testing.T) {
	big := wide(298, boolean)
	for range 3 {
		wantFuse(t, fun(big, unknown), fun(unknown, big))
		wantFuse(t, fun(big, unknown), fun(big, unknown))
		wantFuse(t, fun(big, integer), fun(big, boolean))
		big.Args = append(slices.Clone(big.Args), unknown, integer)
	}
}

// combined has the types that have one of the given ones at each place below them, and those themselves.
func combined(l []api.Ty) []api.Ty {
	out := slices.Clone(l)
	for _, a := range l {
		out = append(out, rec("a", a), rec("b", a))
		for _, b := range l {
			out = append(out, fun(a, b), rec("a b", a, b))
		}
	}
	return out
}

// P8.1 and P8.2: all pairs of small types against the definitions.
func TestSmall(t *testing.T) {
	l := combined([]api.Ty{integer, boolean, unknown, empty, variable("X"), variable("Y"), seal(0), seal(1), {K: api.TTop}, {K: api.TStr}})
	for _, a := range l {
		for _, b := range l {
			wantLess(t, a, b)
			wantFuse(t, a, b)
		}
		for k := -1; k < 4; k++ {
			wantCut(t, a, k)
		}
	}
	for _, a := range combined(combined([]api.Ty{integer, unknown})) {
		for _, b := range combined(combined([]api.Ty{integer, unknown})) {
			if prec.Less(a, b) != slowLess(a, b) {
				t.Fatalf("Less(%v, %v)", a, b)
			}
		}
		for k := -1; k < 8; k++ {
			wantCut(t, a, k)
		}
	}
}

// P8.3: Less is a partial order, and a type that is less precise has no more nodes.
func TestOrder(t *testing.T) {
	l := combined(combined([]api.Ty{integer, unknown}))
	l = append(l, combined([]api.Ty{unknown, variable("X"), seal(2), empty, {K: api.TDyn, N: 1}})...)
	below := make([][]int, len(l))
	for i, a := range l {
		if !prec.Less(a, a) {
			t.Errorf("%v is not as precise as itself", a)
		}
		for j, b := range l {
			if !prec.Less(a, b) {
				continue
			}
			below[i] = append(below[i], j)
			if prec.Less(b, a) && !ty.Same(a, b) {
				t.Errorf("%v and %v are one another's", a, b)
			}
			if ty.Nodes(b) > ty.Nodes(a) {
				t.Errorf("%v has more nodes than %v", b, a)
			}
		}
	}
	for i, a := range l {
		for _, j := range below[i] {
			for _, k := range below[j] {
				if !prec.Less(a, l[k]) {
					t.Fatalf("%v, %v and %v", a, l[j], l[k])
				}
			}
		}
	}
}

// P8.3: the result of Cut is less precise, and has no more nodes.
func TestCutOrder(t *testing.T) {
	r := rand.New(rand.NewSource(3))
	for range 3000 {
		a := random(r, 1+r.Intn(6))
		for r.Intn(3) == 0 {
			a = spoiled(r, a)
		}
		for k := range list(a) {
			got, ok := prec.Cut(a, k)
			if !ok || !prec.Less(a, got) || ty.Nodes(got) > ty.Nodes(a) || ty.Right(a) && !ty.Right(got) {
				t.Errorf("Cut(%v, %d) = %v, %v", a, k, got, ok)
			}
		}
	}
}

// P8.2: among all small types, what Fuse finds is at least as precise as both, and nothing that is so is less precise.
func TestFuseLeast(t *testing.T) {
	l := append(combined([]api.Ty{integer, unknown, fun(unknown, integer), rec("a", unknown), {K: api.TDyn, Name: "X"}}), fun(fun(integer, unknown), rec("a", integer)))
	for _, a := range l {
		for _, b := range l {
			c, ok := prec.Fuse(a, b)
			if ok && !(prec.Less(c, a) && prec.Less(c, b)) {
				t.Fatalf("Fuse(%v, %v) = %v", a, b, c)
			}
			for _, x := range l {
				if prec.Less(x, a) && prec.Less(x, b) && !(ok && prec.Less(x, c)) {
					t.Fatalf("Fuse(%v, %v) = %v, %v, and %v", a, b, c, ok, x)
				}
			}
			if prec.Less(a, b) && !(ok && ty.Same(c, a)) {
				t.Fatalf("Fuse(%v, %v) = %v, %v", a, b, c, ok)
			}
		}
	}
}

// P8.2: types that are cut from one are fused, and the result lies between that one and both.
func TestFuseCuts(t *testing.T) {
	r := rand.New(rand.NewSource(4))
	changed := 0
	for range 20000 {
		a := random(r, 1+r.Intn(6))
		b, c := opened(r, a), opened(r, a)
		got, ok := prec.Fuse(b, c)
		if !ok || !prec.Less(a, got) || !prec.Less(got, b) || !prec.Less(got, c) || !ty.Right(got) {
			t.Fatalf("Fuse(%v, %v) = %v, %v", b, c, got, ok)
		}
		if !ty.Same(got, b) && !ty.Same(got, c) {
			changed++
		}
		d, e := opened(r, a), a
		left, _ := prec.Fuse(got, d)
		right, ok := prec.Fuse(c, d)
		if ok {
			e, ok = prec.Fuse(b, right)
		}
		if !ok || !ty.Same(left, e) {
			t.Fatalf("Fuse of %v, %v and %v: %v or %v", b, c, d, left, e)
		}
	}
	if changed < 2000 {
		t.Errorf("only %d results are none of the arguments", changed)
	}
}

// random is a valid type of at most that depth.
func random(r *rand.Rand, deep int) api.Ty {
	if deep > 1 && r.Intn(6) > 0 {
		if r.Intn(2) == 0 {
			return fun(random(r, deep-1), random(r, deep-1))
		}
		a := api.Ty{K: api.TRec}
		for _, s := range []string{"a", "b", "c1", "d"} {
			if r.Intn(2) == 0 {
				a.Labels, a.Args = append(a.Labels, s), append(a.Args, random(r, deep-1))
			}
		}
		return a
	}
	return []api.Ty{integer, unknown, empty, {K: api.TTop}, {K: api.TStr}, boolean, variable("X"), variable("Yz9"), seal(0), seal(1 << 30)}[r.Intn(10)]
}

// opened is a type with ? at some places, cut out without the package's help.
func opened(r *rand.Rand, a api.Ty) api.Ty {
	if r.Intn(4) == 0 {
		return unknown
	}
	args := a.Args
	a.Args = nil
	for _, b := range args {
		a.Args = append(a.Args, opened(r, b))
	}
	return a
}

// spoiled makes something else of a type at one place, mostly something that is not valid.
func spoiled(r *rand.Rand, a api.Ty) api.Ty {
	switch r.Intn(7) {
	case 0:
		a.K = r.Intn(12) - 1
	case 1:
		a.N = r.Intn(3) - 1
	case 2:
		a.Name = []string{"", "X", "x", "Y"}[r.Intn(4)]
	case 3:
		a.Labels = strings.Fields([]string{"", "a", "b a", "X"}[r.Intn(4)])
	case 4:
		a.Args = append(a.Args[:len(a.Args):len(a.Args)], random(r, 2))
	default:
		if len(a.Args) > 0 {
			a.Args = slices.Clone(a.Args)
			i := r.Intn(len(a.Args))
			a.Args[i] = spoiled(r, a.Args[i])
		}
	}
	return a
}

// All calls on random types, valid ones and others, which are often like one another, against the definitions.
func TestRandom(t *testing.T) {
	r := rand.New(rand.NewSource(5))
	less, fused := 0, 0
	for range 8000 {
		a := random(r, 1+r.Intn(6))
		b, c := opened(r, a), opened(r, a)
		for r.Intn(2) == 0 {
			b = spoiled(r, b)
		}
		for r.Intn(3) == 0 {
			a = spoiled(r, a)
		}
		everywhere(t, a, b)
		wantFuse(t, b, c)
		wantAll(t, []api.Ty{a, b, c}, []api.Ty{opened(r, a), b, unknown})
		wantCut(t, a, r.Intn(12)-1)
		wantCut(t, b, len(list(b))-1-r.Intn(3))
		if prec.Less(a, b) {
			less++
		}
		if _, ok := prec.Fuse(b, c); ok {
			fused++
		}
	}
	if less < 1600 || less > 6400 || fused < 1600 || fused > 7600 {
		t.Errorf("%d are at least as precise, %d are fused", less, fused)
	}
}

// nil and empty lists are equivalent in arguments.
func TestEmpty(t *testing.T) {
	for k := -1; k < 12; k++ {
		a, b := api.Ty{K: k}, api.Ty{K: k, Labels: []string{}, Args: []api.Ty{}}
		everywhere(t, a, b)
		everywhere(t, fun(a, b), fun(b, a))
		if !prec.Less(a, b) || !prec.Less(b, a) {
			t.Errorf("Less with empty lists, kind %d", k)
		}
		if got, ok := prec.Fuse(a, b); !ok || !ty.Same(got, a) {
			t.Errorf("Fuse with empty lists, kind %d: %v, %v", k, got, ok)
		}
		wantCut(t, b, 0)
		wantCut(t, b, 1)
	}
	wantBinds(t, nil, []api.Bind{}, true)
	wantBinds(t, []api.Bind{}, nil, true)
	if !prec.All(nil, nil) || !prec.All(nil, []api.Ty{}) || !prec.All([]api.Ty{}, nil) {
		t.Error("All of empty lists")
	}
}

// Types that are nested deeply, or have many nodes beside one another.
func TestLarge(t *testing.T) {
	const n = 1 << 16
	for _, l := range [][]api.Ty{
		{deep(n, integer, unknown), deep(n, unknown, integer), deep(n, boolean, integer)},
		{left(n, integer, unknown), left(n, unknown, integer), left(n, boolean, integer)},
		{wide(n, integer), wide(n, unknown), wide(n-1, integer)},
	} {
		for i, a := range l {
			b := l[(i+1)%3]
			wantLess(t, a, b)
			wantLess(t, b, a)
			wantFuse(t, a, b)
		}
		for _, k := range []int{0, 1, n, 2*n - 1, 2 * n, 2*n + 1} {
			wantCut(t, l[0], k)
		}
	}
	wantAll(t, slices.Repeat(types(t, "Int -> Bool"), n), slices.Repeat(types(t, "? -> Bool"), n))
	wantAll(t, slices.Repeat(types(t, "Int"), n), append(slices.Repeat(types(t, "?"), n-1), boolean))
}

// Where the answer is known early, types are looked into no further: those with shared parts may be far too great.
func TestShared(t *testing.T) {
	huge, other := shared(400, integer), shared(400, boolean)
	if !prec.Less(huge, unknown) || prec.Less(unknown, huge) || prec.Less(huge, other) || prec.Less(huge, fun(integer, unknown)) || !prec.Less(huge, fun(unknown, fun(unknown, unknown))) {
		t.Error("Less of a great type")
	}
	if prec.All([]api.Ty{huge, huge}, []api.Ty{unknown, boolean}) || prec.All([]api.Ty{integer, huge}, []api.Ty{boolean, huge}) || prec.All([]api.Ty{huge}, nil) || prec.All([]api.Ty{huge, huge}, []api.Ty{huge}) {
		t.Error("All of great types")
	}
	wantBinds(t, []api.Bind{{Name: "x", Type: huge}}, []api.Bind{{Name: "y", Type: huge}}, false)
	wantBinds(t, []api.Bind{{Name: "x", Type: huge}}, []api.Bind{{Name: "x", Type: unknown}}, true)
	wantBinds(t, []api.Bind{{Name: "x", Type: huge}, {}}, []api.Bind{{Name: "x", Type: huge}}, false)
	if got, ok := prec.Fuse(huge, unknown); !ok || got.K != api.TFun {
		t.Errorf("Fuse of a great type and ?: kind %d, %v", got.K, ok)
	}
	if got, ok := prec.Fuse(fun(unknown, huge), fun(huge, fun(unknown, unknown))); !ok || got.K != api.TFun || got.Args[0].K != api.TFun || got.Args[1].K != api.TFun {
		t.Errorf("Fuse of great types: kind %d, %v", got.K, ok)
	}
	for _, a := range []api.Ty{other, empty, fun(integer, unknown), rec("a b", huge, huge), wide(3, huge), {K: api.TFun, N: 1, Args: huge.Args}} {
		if got, ok := prec.Fuse(huge, a); ok || !ty.Same(got, api.Ty{}) {
			t.Errorf("Fuse of great types that are unlike: kind %d, %v", got.K, ok)
		}
	}
	// Each of the first 401 nodes is the first one below the one before it.
	for k := range 401 {
		if got, ok := prec.Cut(huge, k); !ok || !ty.Same(down(got, k), unknown) {
			t.Errorf("Cut of a great type at %d: %v", k, ok)
		}
	}
	if got, ok := prec.Cut(huge, 401); !ok || !ty.Same(down(got, 399), fun(integer, unknown)) || !ty.Same(down(got, 398).Args[1], fun(integer, integer)) {
		t.Errorf("Cut of a great type at 401: %v", ok)
	}
}

// down is what one comes to by so many steps to the first of the Args.
func down(a api.Ty, n int) api.Ty {
	for range n {
		a = a.Args[0]
	}
	return a
}

// roomy is a type whose lists have room behind their ends, in which marks stand.
func roomy(labels []string, args ...api.Ty) api.Ty {
	l := append(append([]string{}, labels...), "mark", "mark")
	b := append(append([]api.Ty{}, args...), seal(-9), seal(-9))
	return api.Ty{K: api.TRec, Labels: l[:len(labels)], Args: b[:len(args)]}
}

func marked(a api.Ty) bool {
	n := len(a.Args)
	l, b := a.Labels[:len(a.Labels)+2], a.Args[:n+2]
	return l[len(l)-1] == "mark" && l[len(l)-2] == "mark" && b[n].N == -9 && b[n+1].N == -9
}

// What was handed in or handed out stays as it is through all later calls.
func TestUntouched(t *testing.T) {
	inner := roomy([]string{"b"}, unknown)
	a := roomy([]string{"a", "c"}, integer, inner)
	b := roomy([]string{"a", "c"}, unknown, roomy([]string{"b"}, boolean))
	before := list(a, inner, b)
	var results []api.Ty
	for k := range 4 {
		cut, _ := prec.Cut(a, k)
		fused, ok := prec.Fuse(cut, b)
		if !ok {
			t.Errorf("Fuse(%v, %v)", cut, b)
		}
		results = append(results, cut, fused)
	}
	then := list(results...)
	for _, x := range results {
		for k := range 5 {
			prec.Cut(x, k)
		}
		prec.Fuse(x, a)
		prec.Fuse(b, x)
		prec.Less(x, b)
		prec.All(x.Args, b.Args)
	}
	if !slices.Equal(list(results...), then) {
		t.Errorf("results have changed: %v", results)
	}
	if !slices.Equal(list(a, inner, b), before) || !marked(a) || !marked(inner) || !marked(b) || !marked(b.Args[1]) {
		t.Errorf("arguments have changed: %v, %v", a, b)
	}
}
