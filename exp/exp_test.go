package exp_test

import (
	"fmt"
	"math"
	"math/rand"
	"reflect"
	"regexp"
	"slices"
	"sort"
	"strings"
	"testing"

	"limbeck/api"
	"limbeck/exp"
	"limbeck/tyread"
)

// typ reads a type; Q7 in it stands for seal 7, and ! for a type that is none.
func typ(s string) api.Ty {
	t, err := tyread.Parse(strings.ReplaceAll(s, "!", "Qx"))
	if err != nil {
		panic(s)
	}
	return sealed(t)
}

func sealed(t api.Ty) api.Ty {
	n := 0
	if t.K == api.TVar && t.Name == "Qx" {
		return api.Ty{}
	}
	if _, err := fmt.Sscanf(t.Name, "Q%d", &n); err == nil && t.K == api.TVar {
		return api.Ty{K: api.TSeal, N: n}
	}
	for i, arg := range t.Args {
		t.Args[i] = sealed(arg)
	}
	return t
}

func typs(l ...string) []api.Ty {
	var types []api.Ty
	for _, s := range l {
		types = append(types, typ(s))
	}
	return types
}

// Expressions, written down without the package's help; the types of let, fn and inst are texts.
func num(n int) api.Exp { return api.Exp{K: api.EInt, N: n} }

func bit(n int) api.Exp { return api.Exp{K: api.EBool, N: n} }

func text(s string) api.Exp { return api.Exp{K: api.EStr, Name: s} }

func v(s string) api.Exp { return api.Exp{K: api.EVar, Name: s} }

func let(s string, a, b api.Exp, types ...string) api.Exp {
	return api.Exp{K: api.ELet, Name: s, Types: typs(types...), Kids: []api.Exp{a, b}}
}

func iff(a, b, c api.Exp) api.Exp { return api.Exp{K: api.EIf, Kids: []api.Exp{a, b, c}} }

func fn(s string, a api.Exp, types ...string) api.Exp {
	return api.Exp{K: api.EFn, Name: s, Types: typs(types...), Kids: []api.Exp{a}}
}

func app(a, b api.Exp) api.Exp { return api.Exp{K: api.EApp, Kids: []api.Exp{a, b}} }

func rec(labels string, kids ...api.Exp) api.Exp {
	return api.Exp{K: api.ERec, Labels: strings.Fields(labels), Kids: kids}
}

func proj(a api.Exp, label string) api.Exp {
	return api.Exp{K: api.EProj, Name: label, Kids: []api.Exp{a}}
}

func op(n int, a, b api.Exp) api.Exp { return api.Exp{K: api.EOp, N: n, Kids: []api.Exp{a, b}} }

func asc(a api.Exp, types ...string) api.Exp {
	return api.Exp{K: api.EAsc, Types: typs(types...), Kids: []api.Exp{a}}
}

func call(s string, kids ...api.Exp) api.Exp { return api.Exp{K: api.ECall, Name: s, Kids: kids} }

func inst(s string, types []api.Ty, kids ...api.Exp) api.Exp {
	return api.Exp{K: api.ECall, Name: s, Has: true, Types: types, Kids: kids}
}

// binds reads "x: Int, y: Bool".
func binds(s string) []api.Bind {
	var l []api.Bind
	for _, part := range strings.Split(s, "; ") {
		if s != "" {
			x, t, _ := strings.Cut(part, ": ")
			l = append(l, api.Bind{Name: x, Type: typ(t)})
		}
	}
	return l
}

func def(s, binders, params, result string, body api.Exp) api.Def {
	return api.Def{Sig: api.Sig{Name: s, Binders: binds(binders), Params: binds(params), Result: typ(result)}, Body: body}
}

// sample is the document's expression: let x: Int = x in fn y => x(call f[Int](z)).
func sample() api.Exp {
	return let("x", v("x"), fn("y", app(v("x"), inst("f", typs("Int"), v("z")))), "Int")
}

// exactTy, exact, exactSig and exactDef write every field, at every level; nil and empty lists come out alike.
func exactTy(t api.Ty) string {
	var args []string
	for _, x := range t.Args {
		args = append(args, exactTy(x))
	}
	return fmt.Sprintf("<%d %d %q %q %q>", t.K, t.N, t.Name, t.Labels, args)
}

func exact(e api.Exp) string {
	var types, kids []string
	for _, t := range e.Types {
		types = append(types, exactTy(t))
	}
	for _, kid := range e.Kids {
		kids = append(kids, exact(kid))
	}
	return fmt.Sprintf("(%d %d %q %v %s %q %s)", e.K, e.N, e.Name, e.Has, types, e.Labels, kids)
}

func exactBinds(l []api.Bind) string {
	var binds []string
	for _, b := range l {
		binds = append(binds, fmt.Sprintf("%q %s", b.Name, exactTy(b.Type)))
	}
	return fmt.Sprint(binds)
}

func exactSig(s api.Sig) string {
	return fmt.Sprintf("%q %s %s %s", s.Name, exactBinds(s.Binders), exactBinds(s.Params), exactTy(s.Result))
}

func exactDef(d api.Def) string { return exactSig(d.Sig) + exact(d.Body) }

// show writes an expression or a definition for a message, if it is not too great to be written.
func show(x any) string {
	left := 1000
	switch x := x.(type) {
	case api.Exp:
		spend(&left, x)
	case api.Def:
		spend(&left, x.Body)
		spend(&left, api.Exp{Types: allTypes(x.Sig)})
	}
	if left < 0 {
		return "a great one"
	}
	return fmt.Sprintf("%+v", x)
}

func spend(left *int, e api.Exp) {
	*left -= 1 + len(e.Labels)
	for _, t := range e.Types {
		spendTy(left, t)
	}
	for _, kid := range e.Kids {
		if *left >= 0 {
			spend(left, kid)
		}
	}
}

func spendTy(left *int, t api.Ty) {
	*left -= 1 + len(t.Labels)
	for _, arg := range t.Args {
		if *left >= 0 {
			spendTy(left, arg)
		}
	}
}

// The document's definitions once more, by patterns and over the lists of all expressions and of all nodes of types.
var (
	lowers   = regexp.MustCompile(`^[a-z][a-z0-9]{0,7}\z`)
	uppers   = regexp.MustCompile(`^[A-Z][a-zA-Z0-9]{0,7}\z`)
	reserved = regexp.MustCompile(`^(let|in|if|then|else|fn|call|def|true|false|Int|Bool|String|Top)\z`)
)

func isName(s string) bool { return lowers.MatchString(s) && !reserved.MatchString(s) }

func isVar(s string) bool { return uppers.MatchString(s) && !reserved.MatchString(s) }

func rises(l []string) bool {
	for i := range l {
		if !isName(l[i]) || i > 0 && strings.Compare(l[i-1], l[i]) >= 0 {
			return false
		}
	}
	return true
}

// listTy and list tell each node, and how deep it is.
func listTy(depth int, t api.Ty) (nodes []api.Ty, depths []int) {
	nodes, depths = []api.Ty{t}, []int{depth}
	for _, arg := range t.Args {
		n, d := listTy(depth+1, arg)
		nodes, depths = append(nodes, n...), append(depths, d...)
	}
	return nodes, depths
}

func list(depth int, e api.Exp) (nodes []api.Exp, depths []int) {
	nodes, depths = []api.Exp{e}, []int{depth}
	for _, kid := range e.Kids {
		n, d := list(depth+1, kid)
		nodes, depths = append(nodes, n...), append(depths, d...)
	}
	return nodes, depths
}

// slowTypes writes down the only valid node of the kind with these parts, and compares; seals are not among them.
func slowTypes(l []api.Ty) bool {
	for _, t := range l {
		nodes, _ := listTy(1, t)
		for _, x := range nodes {
			want := api.Ty{K: x.K}
			switch {
			case x.K >= 1 && x.K <= 5:
			case x.K == 6 && isVar(x.Name):
				want.Name = x.Name
			case x.K == 7 && len(x.Args) == 2:
				want.Args = x.Args
			case x.K == 8 && len(x.Args) == len(x.Labels) && rises(x.Labels):
				want.Labels, want.Args = x.Labels, x.Args
			default:
				return false
			}
			if exactTy(x) != exactTy(want) {
				return false
			}
		}
	}
	return true
}

// slowNode writes down the only valid expression of the kind with these parts, or none, and compares.
func slowNode(e api.Exp) bool {
	kids, types := len(e.Kids), len(e.Types)
	want := api.Exp{K: e.K, Kids: e.Kids}
	switch {
	case e.K == 1 && kids == 0 && e.N >= 0, e.K == 2 && kids == 0 && (e.N == 0 || e.N == 1):
		want.N = e.N
	case e.K == 3 && kids == 0 && len(e.Name) <= 40, e.K == 4 && kids == 0 && isName(e.Name), e.K == 10 && kids == 1 && isName(e.Name):
		want.Name = e.Name
	case e.K == 5 && kids == 2 && isName(e.Name) && types < 2, e.K == 7 && kids == 1 && isName(e.Name) && types < 2:
		want.Name, want.Types = e.Name, e.Types
	case e.K == 6 && kids == 3, e.K == 8 && kids == 2:
	case e.K == 9 && kids == len(e.Labels) && kids <= 6 && rises(e.Labels):
		want.Labels = e.Labels
	case e.K == 11 && kids == 2 && e.N >= 1 && e.N <= 7:
		want.N = e.N
	case e.K == 12 && kids == 1 && types == 1:
		want.Types = e.Types
	case e.K == 13 && kids <= 4 && isName(e.Name) && (!e.Has && types == 0 || e.Has && types >= 1 && types <= 3):
		want.Name, want.Has, want.Types = e.Name, e.Has, e.Types
	default:
		return false
	}
	return exact(e) == exact(want) && slowTypes(e.Types)
}

func slowRight(e api.Exp) bool {
	nodes, _ := list(1, e)
	for _, x := range nodes {
		if !slowNode(x) {
			return false
		}
	}
	return true
}

// slowSize counts the nodes of some types, and of an expression if there is one.
func slowSize(types []api.Ty, bodies ...api.Exp) (nodes, depth int) {
	weigh := func(above int, l []api.Ty) {
		for _, t := range l {
			all, depths := listTy(above+1, t)
			nodes, depth = nodes+len(all), max(depth, slices.Max(depths))
		}
	}
	weigh(0, types)
	for _, e := range bodies {
		all, depths := list(1, e)
		for i, x := range all {
			nodes, depth = nodes+1, max(depth, depths[i])
			weigh(depths[i], x.Types)
		}
	}
	return nodes, depth
}

// slowFree takes what an expression binds from what is free in the Kids where it binds it.
func slowFree(e api.Exp) map[string]bool {
	free := map[string]bool{}
	for i, kid := range e.Kids {
		for s := range slowFree(kid) {
			if s != e.Name || e.K != 7 && (e.K != 5 || i == 0) {
				free[s] = true
			}
		}
	}
	if e.K == 4 {
		free[e.Name] = true
	}
	return free
}

func slowCalls(e api.Exp) map[string]bool {
	calls := map[string]bool{}
	nodes, _ := list(1, e)
	for _, x := range nodes {
		if x.K == 13 {
			calls[x.Name] = true
		}
	}
	return calls
}

func keys(m map[string]bool) []string {
	var l []string
	for s := range m {
		l = append(l, s)
	}
	sort.Strings(l)
	return l
}

func allTypes(s api.Sig) []api.Ty {
	var l []api.Ty
	for _, b := range s.Binders {
		l = append(l, b.Type)
	}
	for _, p := range s.Params {
		l = append(l, p.Type)
	}
	return append(l, s.Result)
}

func slowDef(d api.Def) bool {
	seen := map[string]bool{}
	for _, b := range d.Binders {
		if !isVar(b.Name) || seen[b.Name] {
			return false
		}
		seen[b.Name] = true
	}
	for _, p := range d.Params {
		if !isName(p.Name) || seen[p.Name] {
			return false
		}
		seen[p.Name] = true
	}
	nodes, depth := slowSize(allTypes(d.Sig), d.Body)
	return isName(d.Name) && len(d.Binders) <= 3 && len(d.Params) <= 4 && slowTypes(allTypes(d.Sig)) && slowRight(d.Body) &&
		nodes <= 240 && depth <= 40
}

func wantRight(t *testing.T, e api.Exp, want bool) {
	t.Helper()
	if exp.Right(e) != want {
		t.Errorf("Right(%s) is not %v", show(e), want)
	}
}

func wantSize(t *testing.T, e api.Exp, nodes, depth, count int) {
	t.Helper()
	if n, d, c := exp.Nodes(e), exp.Depth(e), exp.Count(e); n != nodes || d != depth || c != count {
		t.Errorf("%s: %d nodes, depth %d, %d expressions, want %d, %d and %d", show(e), n, d, c, nodes, depth, count)
	}
}

func wantAt(t *testing.T, e api.Exp, k int, want api.Exp) {
	t.Helper()
	if got, ok := exp.At(e, k); !ok || exact(got) != exact(want) {
		t.Errorf("At(%s, %d) = %s, %v, want %s", show(e), k, show(got), ok, show(want))
	}
}

func wantNone(t *testing.T, e api.Exp, k int) {
	t.Helper()
	if got, ok := exp.At(e, k); ok || exact(got) != exact(api.Exp{}) {
		t.Errorf("At(%s, %d) = %s, %v", show(e), k, show(got), ok)
	}
}

func wantNames(t *testing.T, call string, e api.Exp, got, want []string) {
	t.Helper()
	if len(got)+len(want) > 0 && !reflect.DeepEqual(got, want) {
		t.Errorf("%s(%s) = %.20q, want %.20q", call, show(e), got[:min(len(got), 30)], want[:min(len(want), 30)])
	}
}

func wantFree(t *testing.T, e api.Exp, want string) {
	t.Helper()
	wantNames(t, "Free", e, exp.Free(e), strings.Fields(want))
}

func wantCalls(t *testing.T, e api.Exp, want string) {
	t.Helper()
	wantNames(t, "Calls", e, exp.Calls(e), strings.Fields(want))
}

func wantSame(t *testing.T, a, b api.Exp, want bool) {
	t.Helper()
	if exp.Same(a, b) != want || exp.Same(b, a) != want {
		t.Errorf("Same(%s, %s) is not %v both ways", show(a), show(b), want)
	}
}

func wantDef(t *testing.T, d api.Def, want bool) {
	t.Helper()
	if exp.Def(d) != want {
		t.Errorf("Def(%s) is not %v", show(d), want)
	}
}

func wantDefSize(t *testing.T, d api.Def, nodes, depth int) {
	t.Helper()
	if n, deep := exp.Size(d); n != nodes || deep != depth {
		t.Errorf("Size(%s) = %d, %d, want %d, %d", show(d), n, deep, nodes, depth)
	}
}

func wantSameDef(t *testing.T, a, b api.Def, want bool) {
	t.Helper()
	if exp.SameDef(a, b) != want || exp.SameDef(b, a) != want {
		t.Errorf("SameDef(%s, %s) is not %v both ways", show(a), show(b), want)
	}
	heads := exactSig(a.Sig) == exactSig(b.Sig)
	if exp.SameSig(a.Sig, b.Sig) != heads || exp.SameSig(b.Sig, a.Sig) != heads {
		t.Errorf("SameSig(%s, %s) is not %v both ways", show(a), show(b), heads)
	}
}

// wantSlow holds all that is asked of one expression against the definitions.
func wantSlow(t *testing.T, e api.Exp) {
	t.Helper()
	wantRight(t, e, slowRight(e))
	wantSame(t, e, e, true)
	nodes, _ := list(1, e)
	n, depth := slowSize(nil, e)
	wantSize(t, e, n, depth, len(nodes))
	for i, x := range nodes {
		wantAt(t, e, i+1, x)
	}
	for _, k := range []int{len(nodes) + 1, len(nodes) + 2, 0, -1, math.MaxInt, math.MinInt} {
		wantNone(t, e, k)
	}
	wantNames(t, "Free", e, exp.Free(e), keys(slowFree(e)))
	wantNames(t, "Calls", e, exp.Calls(e), keys(slowCalls(e)))
}

func wantSlowDef(t *testing.T, d api.Def) {
	t.Helper()
	wantDef(t, d, slowDef(d))
	n, depth := slowSize(allTypes(d.Sig), d.Body)
	wantDefSize(t, d, n, depth)
	wantSameDef(t, d, d, true)
}

// P14.1: the document's examples of what is not valid.
func TestRightExamples(t *testing.T) {
	wantRight(t, sample(), true)
	for _, e := range []api.Exp{
		{}, num(-1), bit(2), v("X"), op(8, v("x"), v("x")), {K: api.EOp, N: 1, Kids: []api.Exp{v("x")}}, inst("f", nil),
		rec("b a", v("x"), v("x")), asc(v("x")), fn("x", v("x"), "Q0"),
	} {
		wantRight(t, e, false)
		wantRight(t, fn("y", e), false)
		wantRight(t, rec("a b c", num(1), e, bit(0)), false)
	}
}

// ordinary lists valid expressions of each kind, as small and as great as they may be.
func ordinary() []api.Exp {
	x, y := v("x"), v("y")
	l := []api.Exp{
		num(0), num(1), num(math.MaxInt), bit(0), bit(1),
		text(""), text("a\n"), text("Top"), text("\x00\xff\xfe"), text(strings.Repeat("x", 40)), text(strings.Repeat("é", 20)),
		x, v("x1y"), v("abcdefgh"), v("iff"), v("int"), v("lett"),
		let("x", x, y), let("x", x, y, "Int"), let("lets", y, y, "{a: X -> ?, b: Top}"), let("abcdefgh", x, x, "String"),
		iff(x, y, num(1)), iff(iff(x, x, x), x, iff(y, y, y)),
		fn("x", x), fn("x", y, "Int -> Bool"), fn("y", fn("y", y), "X"), app(x, y), app(app(x, x), app(y, y)),
		rec(""), rec("a", x), rec("a b", x, y), rec("a a0 aa ab b c", x, y, x, y, x, y), rec("abcdefgh", rec("")),
		proj(x, "a"), proj(proj(y, "abcdefgh"), "x"), asc(x, "Int"), asc(y, "{a: ?} -> Bool -> Z9"),
		call("f"), call("f", x), call("f", x, y), call("f", x, y, x, y), call("f", call("f", call("g"))),
		inst("f", typs("Int")), inst("f", typs("X", "?", "{}"), x, y), inst("abcdefgh", typs("Top", "Top"), num(1), num(2), num(3), num(4)),
		sample(),
	}
	for n := api.OpAdd; n <= api.OpSame; n++ {
		l = append(l, op(n, x, y), op(n, op(n, x, x), num(n)))
	}
	return l
}

// P14.1: the valid expressions of each kind, alone and within each kind.
func TestRightOrdinary(t *testing.T) {
	for _, e := range ordinary() {
		wantRight(t, e, true)
		for _, x := range around(e) {
			wantRight(t, x, true)
		}
	}
}

// around puts an expression at each place where a valid one has a Kid.
func around(e api.Exp) []api.Exp {
	x := v("x")
	l := []api.Exp{
		let("y", e, x), let("y", x, e, "Int"), iff(e, x, x), iff(x, e, x), iff(x, x, e), fn("y", e), fn("y", e, "?"), app(e, x), app(x, e),
		proj(e, "a"), op(api.OpLess, e, x), op(api.OpAdd, x, e), asc(e, "?"),
	}
	for i := range 6 {
		kids := []api.Exp{x, x, x, x, x, x}
		kids[i] = e
		l = append(l, rec("a b c d e f", kids...))
		if i < 4 {
			l = append(l, call("f", kids[:4]...), inst("f", typs("?"), kids[:i+1]...))
		}
	}
	return l
}

// P14.1: what is not valid by its name, its number, or the length of its lists.
func TestRightEdges(t *testing.T) {
	x := v("x")
	for _, e := range []api.Exp{
		num(math.MinInt), bit(-1), bit(math.MaxInt), text(strings.Repeat("x", 41)), text(strings.Repeat("é", 20) + "x"), text(strings.Repeat("é", 21)),
		op(0, x, x), op(-1, x, x), op(math.MaxInt, x, x), op(math.MinInt, x, x),
		rec("a b c d e f g", x, x, x, x, x, x, x), rec("a a", x, x), rec("a b c b", x, x, x, x), rec("a b", x), rec("a", x, x), rec("", x), rec("a"),
		call("f", x, x, x, x, x), inst("f", typs("?", "?", "?", "?")), inst("f", []api.Ty{}), {K: api.ECall, Name: "f", Types: typs("Int")},
		let("x", x, x, "Int", "Int"), fn("x", x, "Int", "Int"), asc(x, "Int", "Int"), asc(x),
		{K: 14}, {K: -1}, {K: math.MaxInt}, {K: math.MinInt},
	} {
		wantRight(t, e, false)
	}
	for _, s := range []string{
		"", "X", "abcdefghi", "let", "in", "if", "then", "else", "fn", "call", "def", "true", "false", "Int", "Top", "1a", "a_", "a ", "é", "a\xff", "_", "a.b",
	} {
		for _, e := range []api.Exp{
			v(s), let(s, x, x), fn(s, x), proj(x, s), call(s), inst(s, typs("Int")), {K: api.ERec, Labels: []string{s}, Kids: []api.Exp{x}},
			{K: api.ERec, Labels: []string{"a", s}, Kids: []api.Exp{x, x}},
		} {
			wantRight(t, e, false)
		}
		wantRight(t, text(s), true)
	}
}

// P14.1: each kind with each number of Kids.
func TestRightKids(t *testing.T) {
	most := map[int][]int{
		api.EInt: {0}, api.EBool: {0}, api.EStr: {0}, api.EVar: {0}, api.ELet: {2}, api.EIf: {3}, api.EFn: {1}, api.EApp: {2},
		api.EProj: {1}, api.EOp: {2}, api.EAsc: {1}, api.ECall: {0, 1, 2, 3, 4},
	}
	for _, e := range ordinary() {
		for n := range 9 {
			e.Kids = nil
			for range n {
				e.Kids = append(e.Kids, v("x"))
			}
			fine := slices.Contains(most[e.K], n)
			if e.K == api.ERec {
				fine = n == len(e.Labels)
			}
			wantRight(t, e, fine)
		}
	}
}

// P14.1: each field of each kind that is set although the kind has none.
func TestRightOtherFields(t *testing.T) {
	for _, e := range ordinary() {
		has := func(kinds ...int) bool { return slices.Contains(kinds, e.K) }
		for _, n := range []int{1, -1, 7, math.MaxInt, math.MinInt} {
			x := e
			if x.N = n; !has(api.EInt, api.EBool, api.EOp) {
				wantRight(t, x, false)
			}
		}
		for _, s := range []string{"x", "X", "Int", " "} {
			x := e
			if x.Name = s; has(api.EInt, api.EBool, api.EIf, api.EApp, api.ERec, api.EOp, api.EAsc) {
				wantRight(t, x, false)
			}
		}
		x := e
		if x.Has = true; !has(api.ECall) {
			wantRight(t, x, false)
		}
		x = e
		if x.Types = typs("Int"); !has(api.ELet, api.EFn, api.EAsc, api.ECall) {
			wantRight(t, x, false)
		}
		x = e
		if x.Labels = []string{"z"}; !has(api.ERec) {
			wantRight(t, x, false)
		}
	}
}

// P14.1: types that are not valid, or have a seal, wherever a type may stand; variables may be any.
func TestRightTypes(t *testing.T) {
	x := v("x")
	wrong := []string{"!", "Q0", "Q7", "Int -> Q1", "Q1 -> Int", "{a: Int, b: {c: Q3}}", "X -> Y -> !", "{a: ! -> Int}"}
	right := []string{"Int", "Bool", "String", "Top", "?", "X", "Qq", "X -> ?", "{}", "{a: X, b: {c: Top} -> Y}"}
	for i, s := range append(wrong, right...) {
		for _, e := range []api.Exp{
			let("x", x, x, s), fn("x", x, s), asc(x, s), inst("f", typs(s)), inst("f", typs("Int", s), x), inst("f", typs(s, "Int")),
			inst("f", typs("X", "Y", s), x, x), inst("f", typs(s, "Y", "Z"), x, x), inst("f", typs("X", s, "Z"), x, x),
		} {
			wantRight(t, e, i >= len(wrong))
			wantRight(t, app(x, e), i >= len(wrong))
		}
	}
	wantRight(t, api.Exp{K: api.EFn, Name: "x", Types: []api.Ty{{K: api.TSeal, N: 1 << 30}}, Kids: []api.Exp{x}}, false)
	for _, bad := range []api.Ty{{K: api.TInt, N: 1}, {K: api.TFun, Args: typs("Int")}, {K: 10}, {K: api.TVar, Name: "x"}, {K: api.TSeal, N: -1}} {
		wantRight(t, api.Exp{K: api.EAsc, Types: []api.Ty{bad}, Kids: []api.Exp{x}}, false)
	}
}

// P14.1: every expression within a valid one must be valid; one that is not is put in the place of each.
func TestRightEverywhere(t *testing.T) {
	whole := rec("a b c", sample(), iff(asc(op(1, num(1), num(2)), "Int"), proj(rec("d", text("s")), "d"), bit(1)), call("g", num(1), sample()))
	nodes, _ := list(1, whole)
	wantRight(t, whole, true)
	for k := range nodes {
		for _, bad := range []api.Exp{{}, num(-1), fn("X", num(1)), app(v("x"), api.Exp{}), asc(v("x"), "Q1")} {
			wantRight(t, put(whole, k+1, bad), false)
		}
		wantRight(t, put(whole, k+1, call("h", v("x"))), true)
	}
}

// put replaces the k-th expression.
func put(e api.Exp, k int, by api.Exp) api.Exp {
	if k == 1 {
		return by
	}
	k--
	kids := slices.Clone(e.Kids)
	for i, kid := range kids {
		all, _ := list(1, kid)
		if k <= len(all) {
			kids[i] = put(kid, k, by)
			break
		}
		k -= len(all)
	}
	e.Kids = kids
	return e
}

// P14.1: all choices of some values for each field, against the definition.
func TestRightAllFields(t *testing.T) {
	x := v("x")
	types := [][]api.Ty{nil, typs("Int"), typs("Q0"), typs("X", "?"), typs("X", "X", "Int"), typs("X", "X", "!"), typs("?", "?", "?", "?")}
	labels := []string{"", "a", "a b", "b a", "a a", "a b c", "a b C", "a b c d", "a b c d e f", "a b c d e f g"}
	kids := []api.Exp{x, num(3), fn("y", x), text("s"), x, x, x, x}
	for k := -1; k < 15; k++ {
		for _, n := range []int{0, 1, 2, 7, 8, -1} {
			for _, s := range []string{"", "x", "X", "in", strings.Repeat("y", 41)} {
				for _, l := range labels {
					for count := range 8 {
						for _, list := range types {
							for _, has := range []bool{false, true} {
								e := api.Exp{K: k, N: n, Name: s, Has: has, Types: list, Labels: strings.Fields(l), Kids: kids[:count]}
								if exp.Right(e) != quick(e) {
									wantRight(t, e, slowNode(e))
								}
							}
						}
					}
				}
			}
		}
	}
}

// quick answers what slowNode surely answers, without much ado; most of the choices have a field too many.
func quick(e api.Exp) bool {
	if len(e.Labels) > 0 && e.K != 9 || e.N != 0 && e.K != 1 && e.K != 2 && e.K != 11 || e.Has && e.K != 13 {
		return false
	}
	return slowNode(e)
}

// P14.1: no list at all and an empty list are the same (P3).
func TestRightEmptyLists(t *testing.T) {
	for _, e := range ordinary() {
		wantRight(t, blanks(e), true)
		wantSame(t, e, blanks(e), true)
		wantSlow(t, blanks(e))
	}
	wantRight(t, api.Exp{K: api.ECall, Name: "f", Has: true, Types: []api.Ty{}}, false)
	wantRight(t, api.Exp{K: api.EAsc, Types: []api.Ty{}, Kids: []api.Exp{v("x")}}, false)
}

// blanks writes each list of no elements as an empty one with room, at every level.
func blanks(e api.Exp) api.Exp {
	e.Types = append(make([]api.Ty, 0, len(e.Types)+2), e.Types...)
	for i, t := range e.Types {
		e.Types[i] = blankTy(t)
	}
	e.Labels = append(make([]string, 0, len(e.Labels)+2), e.Labels...)
	e.Kids = append(make([]api.Exp, 0, len(e.Kids)+2), e.Kids...)
	for i, kid := range e.Kids {
		e.Kids[i] = blanks(kid)
	}
	return e
}

func blankTy(t api.Ty) api.Ty {
	t.Labels = append(make([]string, 0, len(t.Labels)+2), t.Labels...)
	t.Args = append(make([]api.Ty, 0, len(t.Args)+2), t.Args...)
	for i, arg := range t.Args {
		t.Args[i] = blankTy(arg)
	}
	return t
}

// Nodes, Depth, Count and At: the document's example, and what is not valid.
func TestSizes(t *testing.T) {
	wantSize(t, sample(), 9, 5, 7)
	wantSize(t, api.Exp{}, 1, 1, 1)
	wantSize(t, v("x"), 1, 1, 1)
	wantSize(t, asc(v("x"), "Int"), 3, 2, 2)
	wantSize(t, asc(v("x"), "{a: Int -> Int}"), 6, 4, 2)
	wantSize(t, asc(v("x"), "{a: Int -> Int}", "?", "Int -> Int"), 10, 4, 2)
	wantSize(t, app(asc(v("x"), "{a: Int, b: X -> {c: Y}}"), v("x")), 10, 6, 4)
	wantSize(t, fn("x", fn("y", v("z")), "{a: {b: ?}}"), 6, 4, 3)
	wantSize(t, rec("a b c d e f"), 1, 1, 1)
	wantSize(t, api.Exp{K: api.EInt, Types: typs("!"), Kids: []api.Exp{{}, {}, {Types: typs("? -> ?")}}}, 8, 4, 4)
}

func TestAt(t *testing.T) {
	z := v("z")
	f := inst("f", typs("Int"), z)
	a := app(v("x"), f)
	y := fn("y", a)
	for i, want := range []api.Exp{sample(), v("x"), y, a, v("x"), f, z} {
		wantAt(t, sample(), i+1, want)
	}
	for _, k := range []int{8, 9, 0, -1, math.MaxInt, math.MinInt} {
		wantNone(t, sample(), k)
	}
	wantAt(t, api.Exp{}, 1, api.Exp{})
	wantNone(t, api.Exp{}, 2)
	wantAt(t, api.Exp{K: 99, Kids: []api.Exp{{N: 4}, {N: 5, Kids: []api.Exp{{}}}}}, 3, api.Exp{N: 5, Kids: []api.Exp{{}}})
}

// P14.2: the document's example, what binds where, and names in order.
func TestFree(t *testing.T) {
	x, y, z := v("x"), v("y"), v("z")
	wantFree(t, sample(), "x z")
	wantFree(t, x, "x")
	wantFree(t, num(1), "")
	wantFree(t, let("x", x, x), "x")
	wantFree(t, let("x", y, x), "y")
	wantFree(t, let("x", y, app(x, z)), "y z")
	wantFree(t, let("x", num(1), let("x", x, x)), "")
	wantFree(t, let("x", fn("x", x), y), "y")
	wantFree(t, let("x", let("y", x, y), y), "x y")
	wantFree(t, fn("x", x), "")
	wantFree(t, fn("x", y), "y")
	wantFree(t, fn("x", fn("x", x)), "")
	wantFree(t, fn("x", app(fn("x", x), x)), "")
	wantFree(t, fn("x", fn("y", app(x, app(y, z)))), "z")
	wantFree(t, app(fn("x", x), x), "x")
	wantFree(t, app(let("x", num(1), x), x), "x")
	wantFree(t, app(x, fn("x", x)), "x")
	wantFree(t, fn("x", app(let("x", x, x), app(x, y))), "y")
	wantFree(t, iff(z, x, y), "x y z")
	wantFree(t, rec("a b c", z, y, z), "y z")
	wantFree(t, op(1, op(2, z, x), op(3, x, z)), "x z")
	wantFree(t, call("f", proj(y, "x"), asc(z, "X"), inst("g", typs("X"), x)), "x y z")
	wantFree(t, app(app(v("b"), v("a1")), app(v("aa"), app(v("a"), v("b")))), "a a1 aa b")
}

// P14.2: for any expression, so that the number of Kids, and which names there are, makes no difference.
func TestFreeAny(t *testing.T) {
	kids := []api.Exp{v("x"), v("y"), v("x"), v("z")}
	wantFree(t, api.Exp{K: api.ELet, Name: "x", Kids: kids[:1]}, "x")
	wantFree(t, api.Exp{K: api.ELet, Name: "y", Kids: kids}, "x z")
	wantFree(t, api.Exp{K: api.ELet, Name: "x", Kids: kids}, "x y z")
	wantFree(t, api.Exp{K: api.ELet, Name: "x", Kids: kids[1:]}, "y z")
	wantFree(t, api.Exp{K: api.ELet, Name: "x"}, "")
	wantFree(t, api.Exp{K: api.EFn, Name: "x", Kids: kids}, "y z")
	wantFree(t, api.Exp{K: api.EFn, Name: "y", Kids: kids}, "x z")
	wantFree(t, api.Exp{K: api.EFn, Name: "x"}, "")
	wantFree(t, api.Exp{K: api.EVar, Name: "w", Kids: kids}, "w x y z")
	wantFree(t, fn("w", api.Exp{K: api.EVar, Name: "w", Kids: kids}), "x y z")
	for k := -1; k < 15; k++ {
		if k != api.ELet && k != api.EFn && k != api.EVar {
			wantFree(t, api.Exp{K: k, Name: "x", Has: true, Labels: []string{"x"}, Kids: kids}, "x y z")
		}
	}
	odd := rec("", v(""), v("X"), v("\xff"), v("in"), v("\x00"), v(strings.Repeat("a", 99)), v(""), v("X"))
	wantNames(t, "Free", odd, exp.Free(odd), []string{"", "\x00", "X", strings.Repeat("a", 99), "in", "\xff"})
	wantNames(t, "Free", fn("X", odd), exp.Free(fn("X", odd)), []string{"", "\x00", strings.Repeat("a", 99), "in", "\xff"})
	wantNames(t, "Free", let("", odd, odd), exp.Free(let("", odd, v("x"))), []string{"", "\x00", "X", strings.Repeat("a", 99), "in", "x", "\xff"})
	wantNames(t, "Free", fn("", odd), exp.Free(fn("", odd)), []string{"\x00", "X", strings.Repeat("a", 99), "in", "\xff"})
}

func TestCalls(t *testing.T) {
	wantCalls(t, sample(), "f")
	wantCalls(t, num(1), "")
	wantCalls(t, v("f"), "")
	wantCalls(t, let("f", proj(v("g"), "h"), fn("k", v("k"))), "")
	wantCalls(t, fn("f", call("f")), "f")
	wantCalls(t, let("f", call("g"), call("f")), "f g")
	wantCalls(t, call("f", call("f", call("b")), inst("a", typs("X"), call("f"))), "a b f")
	wantCalls(t, iff(call("z"), call("z1"), app(call("aa"), call("a1"))), "a1 aa z z1")
	for k := -1; k < 13; k++ {
		wantCalls(t, api.Exp{K: k, Name: "x", Has: true, Kids: []api.Exp{call("g")}}, "g")
	}
	odd := rec("", call(""), call("X"), call("\xff"), call("X"), call("in"))
	wantNames(t, "Calls", odd, exp.Calls(odd), []string{"", "X", "in", "\xff"})
}

// Same: each field of each expression and of each type makes a difference, and nothing else does.
func TestSame(t *testing.T) {
	whole := rec("a b", sample(), inst("g", typs("{a: Int -> ?}", "X"), iff(bit(1), op(2, num(1), num(2)), asc(v("y"), "Int"))))
	nodes, _ := list(1, whole)
	for k, x := range nodes {
		for _, y := range changes(x) {
			wantSame(t, whole, put(whole, k+1, y), exact(x) == exact(y))
		}
	}
	wantSame(t, whole, whole, true)
	l := append(ordinary(), api.Exp{}, num(-1), api.Exp{K: api.EVar, Kids: []api.Exp{{}}}, api.Exp{K: api.EVar, Types: typs("!")})
	for _, a := range l {
		for _, b := range l {
			wantSame(t, a, b, exact(a) == exact(b))
		}
	}
}

// changes lists expressions that differ from e in one field.
func changes(e api.Exp) []api.Exp {
	var l []api.Exp
	change := func(set func(*api.Exp)) {
		x := e
		set(&x)
		l = append(l, x)
	}
	change(func(x *api.Exp) { x.K++ })
	change(func(x *api.Exp) { x.N++ })
	change(func(x *api.Exp) { x.N = -x.N - 1 })
	change(func(x *api.Exp) { x.Name += "x" })
	change(func(x *api.Exp) { x.Name = "" })
	change(func(x *api.Exp) { x.Has = !x.Has })
	change(func(x *api.Exp) { x.Types = append(slices.Clone(x.Types), api.Ty{}) })
	change(func(x *api.Exp) { x.Labels = append(slices.Clone(x.Labels), "") })
	change(func(x *api.Exp) { x.Kids = append(slices.Clone(x.Kids), api.Exp{}) })
	if len(e.Types) > 0 {
		change(func(x *api.Exp) { x.Types = x.Types[1:] })
		for i, t := range e.Types {
			for _, u := range []api.Ty{{}, {K: t.K, N: 1}, {K: t.K, Args: t.Args, Labels: []string{"z"}}, {K: api.TFun, Args: []api.Ty{t, t}}} {
				change(func(x *api.Exp) {
					x.Types = slices.Clone(x.Types)
					x.Types[i] = u
				})
			}
		}
	}
	if len(e.Labels) > 0 {
		change(func(x *api.Exp) { x.Labels = x.Labels[1:] })
		change(func(x *api.Exp) { x.Labels = append([]string{"A"}, x.Labels[1:]...) })
	}
	if len(e.Kids) > 0 {
		change(func(x *api.Exp) { x.Kids = x.Kids[1:] })
		change(func(x *api.Exp) { x.Kids = x.Kids[:len(x.Kids)-1] })
		change(func(x *api.Exp) { x.Kids = append(x.Kids[1:len(x.Kids):len(x.Kids)], x.Kids[0]) })
	}
	return l
}

// P14.3: the document's examples.
func TestDefExamples(t *testing.T) {
	d := def("f", "X: Int", "x: Int", "Int", v("x"))
	wantDef(t, d, true)
	wantDefSize(t, d, 4, 1)
	wantDef(t, def("f", "", "x: Int; x: Int", "Int", v("x")), false)
	wantDef(t, def("f", "", "x: Int; x: Bool", "Int", v("x")), false)
	wantDef(t, api.Def{}, false)
	wantDefSize(t, api.Def{}, 2, 1)
	wantDefSize(t, def("f", "X: Int -> Int; Y: ?", "x: {a: Int}", "X", sample()), 16, 5)
	wantDefSize(t, def("f", "X: {a: {b: {c: {d: {e: ?}}}}}", "", "X", sample()), 16, 6)
	wantDefSize(t, def("f", "", "x: {a: {b: {c: {d: {e: ?}}}}}", "X", sample()), 16, 6)
	wantDefSize(t, def("f", "", "", "{a: {b: {c: {d: {e: ?}}}}}", sample()), 15, 6)
	wantDefSize(t, def("f", "", "", "?", asc(v("x"), "{a: {b: {c: {d: {e: ?}}}}}")), 9, 7)
}

// P14.3: names, and how many binders and params there are; whether variables are bound, and what binds them, is not asked.
func TestDefHeads(t *testing.T) {
	x := v("x")
	for _, d := range []api.Def{
		def("f", "", "", "?", x), def("abcdefgh", "", "", "X", x), def("f", "X: Top; Y: Int; Z: ?", "", "Y", x),
		def("f", "", "x: Int; y: Int; z: Int; w: Int", "Int", x), def("f", "X: Y; Y: X", "f: Z; g: X -> W", "A -> B", sample()),
		def("f", "X: X; Abcdefgh: {a: Bool}; TOP: Int", "abcdefgh: Int; int: Bool; xx: ?; ff: Top", "{}", call("f")),
	} {
		wantDef(t, d, true)
		wantSlowDef(t, d)
	}
	for _, d := range []api.Def{
		def("f", "X: Top; Y: Int; Z: ?; W: ?", "", "Y", x), def("f", "", "x: Int; y: Int; z: Int; w: Int; v: Int", "Int", x),
		def("f", "X: Top; X: Top", "", "Y", x), def("f", "X: Top; Y: Top; X: Int", "", "Y", x), def("f", "X: Top; Y: Top; Y: Top", "", "Y", x),
		def("f", "", "x: Int; y: Int; x: Int", "Int", x), def("f", "", "x: Int; y: Int; z: Int; x: Int", "Int", x),
		def("f", "", "x: Int; y: Int; z: Int; y: Int", "Int", x), def("f", "", "x: Int; y: Int; z: Int; z: Int", "Int", x),
		def("f", "", "x: Int; y: Int; y: Int; z: Int", "Int", x),
	} {
		wantDef(t, d, false)
		wantSlowDef(t, d)
	}
	for _, s := range []string{"", "let", "def", "Int", "Top", "abcdefghi", "Abcdefghi", "a_", "A_", "1", "é", "a\xff", "A\xff", "x y"} {
		wantDef(t, def(s, "", "", "?", x), false)
		wantDef(t, def("f", s+": Int", "", "?", x), false)
		wantDef(t, def("f", "X: Int; "+s+": Int", "", "?", x), false)
		wantDef(t, def("f", "", s+": Int", "?", x), false)
		wantDef(t, def("f", "", "x: Int; y: Int; "+s+": Int; z: Int", "?", x), false)
	}
	wantDef(t, def("F", "", "", "?", x), false)
	wantDef(t, def("f", "x: Int", "", "?", x), false)
	wantDef(t, def("f", "", "X: Int", "?", x), false)
}

// P14.3: types that are not valid or have a seal, and bodies that are not valid, at each place.
func TestDefParts(t *testing.T) {
	for _, s := range []string{"!", "Q0", "Q5 -> Int", "{a: Int, b: Q1}", "Int -> !", "Int", "?", "X -> {a: Y}"} {
		wrong := strings.ContainsAny(s, "Q!")
		for _, d := range []api.Def{
			def("f", "X: "+s, "x: Int", "Int", v("x")), def("f", "X: Int; Y: Int; Z: "+s, "x: Int", "Int", v("x")), def("f", "X: Int; Y: "+s+"; Z: Int", "", "Int", v("x")),
			def("f", "", "x: "+s, "Int", v("x")), def("f", "X: Int", "x: Int; y: Int; z: Int; w: "+s, "Int", v("x")), def("f", "", "x: Int; y: "+s+"; z: Int", "?", v("x")),
			def("f", "X: Int", "x: Int", s, v("x")), def("f", "X: Int", "x: Int", "Int", asc(v("x"), s)),
		} {
			wantDef(t, d, !wrong)
			wantSlowDef(t, d)
		}
	}
	for _, e := range []api.Exp{{}, num(-1), v("X"), app(v("x"), api.Exp{}), inst("f", nil), fn("x", let("y", num(1), rec("b a", num(1), num(2))))} {
		wantDef(t, def("f", "", "", "Int", e), false)
	}
	for _, e := range ordinary() {
		wantDef(t, def("f", "", "", "Int", e), true)
	}
}

// wide is a type with n nodes, tall one that is n deep; leafy is an expression with n nodes, steep one that is n deep.
func wide(n int) string {
	var fields []string
	for i := range n - 1 {
		fields = append(fields, fmt.Sprintf("a%d: ?", i))
	}
	return "{" + strings.Join(fields, ", ") + "}"
}

func tall(n int) string { return strings.Repeat("{a: ", n-1) + "Int" + strings.Repeat("}", n-1) }

func leafy(n int) api.Exp {
	if n < 4 {
		return steep(n)
	}
	n--
	return iff(leafy(n/3), leafy(n/3), leafy(n-n/3-n/3))
}

func steep(n int) api.Exp {
	e := v("x")
	for range n - 1 {
		e = proj(e, "a")
	}
	return e
}

// P14.3: as many nodes as there may be, and one more, with the nodes at each place; the same for the depth.
func TestDefLimits(t *testing.T) {
	x := v("x")
	for _, extra := range []int{-1, 0, 1, 2, 60, 61, 100, 1000} {
		n := 240 + extra
		for _, d := range []api.Def{
			def("f", "X: "+wide(n-2), "", "Int", x), def("f", "", "x: "+wide(n-2), "Int", x), def("f", "", "", wide(n-1), x),
			def("f", "X: Int; Y: Int; Z: "+wide(n-4), "", "Int", x), def("f", "", "x: Int; y: Int; z: Int; w: "+wide(n-5), "Int", x),
			def("f", "", "", "Int", asc(x, wide(n-3))), def("f", "", "", "Int", app(x, fn("x", num(1), wide(n-5)))), def("f", "", "", "Int", leafy(n-1)),
			def("f", "X: "+wide(50), "x: "+wide(50), wide(50), inst("g", typs(wide(50), wide(n-202)), x)),
			def("f", "X: Int", "x: Int", "Int", leafy(n-3)), def("f", "", "", "Int", app(leafy(n-7), asc(v("x"), "Int -> Int"))),
			def("f", "", "", "Int", app(asc(v("x"), wide(100)), asc(v("x"), wide(n-106)))),
		} {
			wantDefSize(t, d, n, depthOf(d))
			wantDef(t, d, extra <= 0)
		}
	}
	for _, extra := range []int{-1, 0, 1, 2, 20} {
		n := 40 + extra
		for _, d := range []api.Def{
			def("f", "X: "+tall(n), "", "Int", x), def("f", "X: Int; Y: Int; Z: "+tall(n), "", "Int", x), def("f", "", "x: "+tall(n), "Int", x),
			def("f", "", "x: Int; y: Int; z: Int; w: "+tall(n), "Int", x), def("f", "", "", tall(n), x), def("f", "", "", "Int", steep(n)),
			def("f", "", "", "Int", asc(x, tall(n-1))), def("f", "", "", "Int", app(x, fn("x", num(1), tall(n-2)))),
			def("f", "", "", "Int", asc(steep(n-1), "Int")), def("f", "X: Int", "x: ?", "?", inst("f", typs("Int", tall(n-1)), x)),
		} {
			nodes, _ := slowSize(allTypes(d.Sig), d.Body)
			wantDefSize(t, d, nodes, n)
			wantDef(t, d, extra <= 0)
		}
	}
}

func depthOf(d api.Def) int {
	_, depth := slowSize(allTypes(d.Sig), d.Body)
	return depth
}

// SameSig and SameDef: each field makes a difference, and nothing else does.
func TestSameDef(t *testing.T) {
	build := func() api.Def { return def("f", "X: Int -> ?; Y: Top", "x: X; y: {a: Int}", "Y", sample()) }
	l := []api.Def{{}, build(), def("f", "", "", "Int", num(1)), def("f", "X: Int", "", "Int", num(1)), def("f", "", "X: Int", "Int", num(1))}
	change := func(set func(*api.Def)) {
		d := build()
		set(&d)
		l = append(l, d)
	}
	change(func(d *api.Def) { d.Name = "g" })
	change(func(d *api.Def) { d.Name = "" })
	change(func(d *api.Def) { d.Binders[1].Name = "Z" })
	change(func(d *api.Def) { d.Binders[0].Type.Args[0].K = api.TBool })
	change(func(d *api.Def) { d.Binders[0].Type.N = 1 })
	change(func(d *api.Def) { d.Binders = d.Binders[:1] })
	change(func(d *api.Def) { d.Binders = nil })
	change(func(d *api.Def) { slices.Reverse(d.Binders) })
	change(func(d *api.Def) { d.Params[0].Name = "z" })
	change(func(d *api.Def) { d.Params[1].Type.Labels[0] = "b" })
	change(func(d *api.Def) { d.Params[1].Type.Args[0].Name = "b" })
	change(func(d *api.Def) { d.Params = d.Params[:1] })
	change(func(d *api.Def) { d.Params = append(d.Params, api.Bind{}) })
	change(func(d *api.Def) { slices.Reverse(d.Params) })
	change(func(d *api.Def) { d.Binders, d.Params = d.Params, d.Binders })
	change(func(d *api.Def) { d.Result = api.Ty{} })
	change(func(d *api.Def) { d.Result.N = 1 })
	for _, e := range changes(sample()) {
		change(func(d *api.Def) { d.Body = e })
	}
	for _, a := range l {
		for _, b := range l {
			wantSameDef(t, a, b, exactDef(a) == exactDef(b))
		}
		wantSameDef(t, a, blankDef(a), true)
	}
}

func blankDef(d api.Def) api.Def {
	d.Binders, d.Params = append(make([]api.Bind, 0, 9), d.Binders...), append(make([]api.Bind, 0, 9), d.Params...)
	for i, b := range d.Binders {
		d.Binders[i].Type = blankTy(b.Type)
	}
	for i, b := range d.Params {
		d.Params[i].Type = blankTy(b.Type)
	}
	d.Result, d.Body = blankTy(d.Result), blanks(d.Body)
	return d
}

// random makes expressions that are mostly valid, or not at all if wild.
type random struct {
	*rand.Rand
	wild bool
}

func (r random) pick(l ...string) string { return l[r.Intn(len(l))] }

func (r random) name() string {
	if r.wild && r.Intn(4) == 0 {
		return r.pick("", "X", "let", "abcdefghi", "\xff", "Q1")
	}
	return r.pick("x", "y", "z", "x1", "f")
}

func (r random) ty(depth int) api.Ty {
	if r.wild && r.Intn(8) == 0 {
		return typ(r.pick("!", "Q1", "! -> Int"))
	}
	if depth == 0 || r.Intn(2) == 0 {
		return typ(r.pick("Int", "Bool", "String", "Top", "?", "X", "Y", "{}"))
	}
	a, b := r.ty(depth-1), r.ty(depth-1)
	if r.Intn(2) == 0 {
		return api.Ty{K: api.TFun, Args: []api.Ty{a, b}}
	}
	return api.Ty{K: api.TRec, Labels: []string{"a", "b"}, Args: []api.Ty{a, b}}
}

func (r random) types(least, most int) []api.Ty {
	var l []api.Ty
	for range least + r.Intn(most-least+1) {
		l = append(l, r.ty(2))
	}
	return l
}

func (r random) exp(depth int) api.Exp {
	k := 1 + r.Intn(13)
	if depth == 0 {
		k = []int{api.EInt, api.EBool, api.EStr, api.EVar, api.EVar, api.ECall, api.ERec}[r.Intn(7)]
	}
	counts := map[int]int{api.ELet: 2, api.EIf: 3, api.EFn: 1, api.EApp: 2, api.EProj: 1, api.EOp: 2, api.EAsc: 1}
	e, count := api.Exp{K: k}, counts[k]
	switch k {
	case api.EInt:
		e.N = r.Intn(9)
	case api.EBool:
		e.N = r.Intn(2)
	case api.EOp:
		e.N = 1 + r.Intn(7)
	case api.EStr:
		e.Name = r.pick("", "a", "b c")
	case api.ELet, api.EFn:
		e.Name, e.Types = r.name(), r.types(0, 1)
	case api.EVar, api.EProj:
		e.Name = r.name()
	case api.ERec:
		count = r.Intn(4)
		e.Labels = []string{"a", "b", "c", "d"}[:count]
	case api.EAsc:
		e.Types = r.types(1, 1)
	case api.ECall:
		count, e.Name, e.Types = r.Intn(5), r.name(), r.types(0, 3)
		e.Has = len(e.Types) > 0
	}
	if depth == 0 && count > 0 {
		count, e.Labels = 0, nil
	}
	for range count {
		e.Kids = append(e.Kids, r.exp(depth-1))
	}
	return r.spoil(e)
}

// spoil changes one thing, now and then.
func (r random) spoil(e api.Exp) api.Exp {
	if !r.wild || r.Intn(6) > 0 {
		return e
	}
	switch r.Intn(7) {
	case 0:
		e.K = r.Intn(20) - 2
	case 1:
		e.N += r.Intn(5) - 2
	case 2:
		e.Name = r.name()
	case 3:
		e.Has = !e.Has
	case 4:
		e.Types = r.types(0, 4)
	case 5:
		e.Labels = append(slices.Clone(e.Labels), r.name())
	case 6:
		e.Kids = append(e.Kids, r.exp(0))
	}
	return e
}

func (r random) def() api.Def {
	d := api.Def{Sig: api.Sig{Name: r.name(), Result: r.ty(2)}, Body: r.exp(r.Intn(5))}
	for _, s := range []string{"X", "Y", "Z", "W"}[:r.Intn(4+r.Intn(2))] {
		if r.wild && r.Intn(9) == 0 {
			s = r.pick("X", "Y", "x", "")
		}
		d.Binders = append(d.Binders, api.Bind{Name: s, Type: r.ty(2)})
	}
	for _, s := range []string{"x", "y", "z", "w", "v"}[:r.Intn(5+r.Intn(2))] {
		if r.wild && r.Intn(9) == 0 {
			s = r.pick("x", "y", "X", "")
		}
		d.Params = append(d.Params, api.Bind{Name: s, Type: r.ty(2)})
	}
	return d
}

// P14.1 and P14.2: random expressions against the definitions.
func TestRandom(t *testing.T) {
	right := 0
	for i := range 6000 {
		r := random{rand.New(rand.NewSource(int64(i))), i%2 == 1}
		e := r.exp(r.Intn(5))
		wantSlow(t, e)
		if slowRight(e) {
			right++
		}
		f := r.exp(r.Intn(2))
		wantSame(t, e, f, exact(e) == exact(f))
	}
	if right < 2500 || right > 5500 {
		t.Errorf("%d valid expressions", right)
	}
}

// P14.3: random definitions against the definition.
func TestRandomDefs(t *testing.T) {
	right := 0
	for i := range 6000 {
		r := random{rand.New(rand.NewSource(int64(i))), i%4 == 1}
		d := r.def()
		wantSlowDef(t, d)
		if slowDef(d) {
			right++
		}
	}
	if right < 1000 || right > 5500 {
		t.Errorf("%d valid definitions", right)
	}
}

// P14.4: every expression of a valid expression is valid; there are as many as Count states; none has more nodes than the whole.
func TestProperties(t *testing.T) {
	l := ordinary()
	for i := range 2000 {
		r := random{rand.New(rand.NewSource(int64(i))), false}
		l = append(l, r.exp(r.Intn(6)))
	}
	for _, e := range l {
		count, whole := 0, exp.Nodes(e)
		for x, ok := exp.At(e, 1); ok; x, ok = exp.At(e, count+1) {
			count++
			wantRight(t, x, true)
			if n := exp.Nodes(x); n > whole || n == whole && count > 1 {
				t.Errorf("%s has %d nodes, %s %d", show(x), n, show(e), whole)
			}
		}
		if exp.Count(e) != count {
			t.Errorf("Count(%s) = %d, want %d", show(e), exp.Count(e), count)
		}
	}
}

// P4: what a call is given stays as it is, beyond the ends of its lists too.
func TestArgumentsStay(t *testing.T) {
	for i := range 300 {
		r := random{rand.New(rand.NewSource(int64(i))), i%2 == 1}
		d := roomy(r.def())
		before := fmt.Sprint(room(d), exactDef(d))
		exp.Right(d.Body)
		exp.Same(d.Body, d.Body)
		exp.Nodes(d.Body)
		exp.Depth(d.Body)
		exp.Count(d.Body)
		exp.At(d.Body, 2)
		exp.Free(d.Body)
		exp.Calls(d.Body)
		exp.Def(d)
		exp.Size(d)
		exp.SameSig(d.Sig, d.Sig)
		exp.SameDef(d, d)
		if after := fmt.Sprint(room(d), exactDef(d)); after != before {
			t.Fatalf("%s became %s", before, after)
		}
	}
}

// roomy gives the lists of a definition room beyond their ends, with something in it; room tells what is there.
func roomy(d api.Def) api.Def {
	d = blankDef(d)
	more := api.Bind{Name: "more", Type: typ("Bool")}
	d.Binders = append(d.Binders, more)[:len(d.Binders)]
	d.Params = append(d.Params, more)[:len(d.Params)]
	d.Body.Kids = append(d.Body.Kids, v("more"))[:len(d.Body.Kids)]
	d.Body.Types = append(d.Body.Types, typ("Bool"))[:len(d.Body.Types)]
	return d
}

func room(d api.Def) string {
	return fmt.Sprint(d.Binders[:len(d.Binders)+1], d.Params[:len(d.Params)+1], d.Body.Kids[:len(d.Body.Kids)+1], d.Body.Types[:len(d.Body.Types)+1])
}

const deep = 1 << 16

// P1: as many parts nested in one another as there may be.
func TestDeep(t *testing.T) {
	e, f, under := v("x0"), v("x0"), api.Ty{K: api.TInt}
	for i := range deep - 1 {
		e = fn(fmt.Sprint("x", i%1000), api.Exp{K: api.EProj, Name: "a", Kids: []api.Exp{e}})
		if i%2 == 0 {
			f = let(fmt.Sprint("y", i), f, v("x0"))
		} else {
			f = let(fmt.Sprint("x", i%1000), v(fmt.Sprint("z", i%1000)), app(v("x9"), f))
		}
		under = api.Ty{K: api.TFun, Args: []api.Ty{{K: api.TInt}, under}}
		if i == deep/2 {
			wantRight(t, e, true)
			wantFree(t, e, "")
		}
	}
	last, ok := exp.At(e, 2*deep-1)
	if !ok || exact(last) != exact(v("x0")) {
		t.Errorf("At: %s", show(last))
	}
	wantNone(t, e, 2*deep)
	wantSize(t, e, 2*deep-1, 2*deep-1, 2*deep-1)
	wantSame(t, e, fn("x", e), false)
	wantSame(t, e, e, true)
	wantCalls(t, f, "")
	if !slices.Contains(exp.Free(f), "x0") || !slices.Contains(exp.Free(f), "z999") || slices.Contains(exp.Free(f), "x1") {
		t.Errorf("Free: %.20q", exp.Free(f)[:10])
	}
	wantRight(t, api.Exp{K: api.EAsc, Types: []api.Ty{under}, Kids: []api.Exp{v("x")}}, true)
	d := api.Def{Sig: api.Sig{Name: "f", Params: []api.Bind{{Name: "x", Type: under}}, Result: under}, Body: e}
	wantDef(t, d, false)
	wantDefSize(t, d, 3*(2*deep-1), 2*deep-1)
	if other := (api.Def{Sig: d.Sig, Body: fn("x", e)}); !exp.SameSig(d.Sig, d.Sig) || !exp.SameDef(d, d) || exp.SameDef(d, other) {
		t.Error("SameDef: deep")
	}
	d.Body = api.Exp{K: api.EAsc, Types: []api.Ty{under}, Kids: []api.Exp{v("x")}}
	wantDefSize(t, d, 3*(2*deep-1)+2, deep+1)
}

// P1: very long lists, and as many names as there are variables.
func TestWide(t *testing.T) {
	var vars, calls []api.Exp
	var names []string
	var params []api.Bind
	for i := range deep {
		s := fmt.Sprintf("v%07d", i)
		names = append(names, s)
		vars = append(vars, v(s))
		calls = append(calls, api.Exp{K: api.ECall, Name: s, Types: typs("Int")})
		params = append(params, api.Bind{Name: s, Type: typ("Int")})
	}
	slices.Reverse(vars)
	e := api.Exp{K: api.ERec, Labels: names, Kids: append(vars, calls...)}
	wantSize(t, e, 3*deep+1, 3, 2*deep+1)
	wantNames(t, "Free", e, exp.Free(e), names)
	wantNames(t, "Calls", e, exp.Calls(e), names)
	wantRight(t, e, false)
	wantRight(t, api.Exp{K: api.ERec, Labels: names, Kids: vars}, false)
	wantRight(t, api.Exp{K: api.ECall, Name: "f", Kids: vars}, false)
	wantNames(t, "Free", fn(names[3], e), exp.Free(fn(names[3], e)), slices.Concat(names[:3], names[4:]))
	for _, s := range names {
		e = fn(s, e)
	}
	wantFree(t, e, "")
	wantDef(t, api.Def{Sig: api.Sig{Name: "f", Params: params, Result: typ("Int")}, Body: v("x")}, false)
	wantDef(t, api.Def{Sig: api.Sig{Name: "f", Binders: params, Result: typ("Int")}, Body: v("x")}, false)
	wantDefSize(t, api.Def{Sig: api.Sig{Binders: params, Params: params, Result: typ("Int")}, Body: e}, 6*deep+2, deep+3)
}

// P1: a definition that is far greater than the memory it takes is not gone through.
func TestShared(t *testing.T) {
	e, under := v("x"), typ("Int")
	for range 100 {
		e = app(e, e)
		under = api.Ty{K: api.TFun, Args: []api.Ty{under, under}}
	}
	great := []api.Ty{under}
	for _, d := range []api.Def{
		{Sig: api.Sig{Name: "f", Result: typ("Int")}, Body: e},
		{Sig: api.Sig{Name: "f", Result: typ("Int")}, Body: app(v("x"), fn("x", e))},
		{Sig: api.Sig{Name: "f", Result: under}, Body: v("x")},
		{Sig: api.Sig{Name: "f", Params: []api.Bind{{Name: "x", Type: under}}, Result: typ("Int")}, Body: v("x")},
		{Sig: api.Sig{Name: "f", Binders: []api.Bind{{Name: "X", Type: under}}, Result: typ("Int")}, Body: v("x")},
		{Sig: api.Sig{Name: "f", Result: typ("Int")}, Body: api.Exp{K: api.EAsc, Types: great, Kids: []api.Exp{v("x")}}},
		{Sig: api.Sig{Name: "f", Result: typ("Int")}, Body: api.Exp{K: api.ECall, Name: "f", Has: true, Types: slices.Repeat(great, deep)}},
	} {
		wantDef(t, d, false)
	}
	first, ok := exp.At(e, 102)
	if !ok || first.K != api.EVar {
		t.Errorf("At: %s", show(first))
	}
	wantRight(t, app(api.Exp{}, e), false)
}
