package expfmt_test

import (
	"fmt"
	"math"
	"math/rand"
	"reflect"
	"slices"
	"strings"
	"testing"

	"limbeck/api"
	"limbeck/exp"
	"limbeck/expfmt"
	"limbeck/lex"
	"limbeck/tyfmt"
	"limbeck/tyread"
)

// types reads some types, separated by semicolons.
func types(s string) []api.Ty {
	var l []api.Ty
	for _, part := range strings.FieldsFunc(s, func(c rune) bool { return c == ';' }) {
		t, err := tyread.Parse(part)
		if err != nil {
			panic(part)
		}
		l = append(l, t)
	}
	return l
}

// node is an expression that is neither a number nor an operation, written down without the package's help; the
// labels of a record come as its name.
func node(k int, name, ts string, kids ...api.Exp) api.Exp {
	e := api.Exp{K: k, Name: name, Types: types(ts), Kids: kids}
	switch k {
	case api.ERec:
		e.Name, e.Labels = "", strings.Fields(name)
	case api.ECall:
		e.Has = ts != ""
	}
	return e
}

func num(n int) api.Exp { return api.Exp{K: api.EInt, N: n} }

func bit(n int) api.Exp { return api.Exp{K: api.EBool, N: n} }

func str(s string) api.Exp { return api.Exp{K: api.EStr, Name: s} }

func v(s string) api.Exp { return api.Exp{K: api.EVar, Name: s} }

func op(n int, a, b api.Exp) api.Exp { return api.Exp{K: api.EOp, N: n, Kids: []api.Exp{a, b}} }

func app(a, b api.Exp) api.Exp { return node(api.EApp, "", "", a, b) }

func bind(s, t string) api.Bind { return api.Bind{Name: s, Type: types(t)[0]} }

func def(s string, binders, params []api.Bind, result string, body api.Exp) api.Def {
	return api.Def{Sig: api.Sig{Name: s, Binders: binders, Params: params, Result: types(result)[0]}, Body: body}
}

func wantShow(t *testing.T, e api.Exp, want string) {
	t.Helper()
	if got := expfmt.Show(e); got != want {
		t.Errorf("Show(%s) = %.300q, want %.300q", brief(e), got, want)
	}
}

func wantDef(t *testing.T, d api.Def, want string) {
	t.Helper()
	if got := expfmt.Def(d); got != want {
		t.Errorf("Def(%s) = %.300q, want %.300q", brief(d.Body), got, want)
	}
}

func wantSig(t *testing.T, s api.Sig, want string) {
	t.Helper()
	if got := expfmt.Sig(s); got != want {
		t.Errorf("Sig(%+v) = %.300q, want %.300q", s, got, want)
	}
}

// brief writes an expression for a message. It does not go into one that is deep: lists may be shared.
func brief(e api.Exp) string {
	for depth, x := 0, e; len(x.Kids) > 0; x = x.Kids[0] {
		if depth++; depth > 9 {
			return fmt.Sprintf("a deep one of the kind %d", e.K)
		}
	}
	return fmt.Sprintf("%.300s", fmt.Sprintf("%+v", e))
}

// P15.1.
func TestOp(t *testing.T) {
	want := []string{"+", "-", "*", "/", "++", "<", "=="}
	for i, s := range want {
		if got := expfmt.Op(i + 1); got != s {
			t.Errorf("Op(%d) = %q, want %q", i+1, got, s)
		}
	}
	for _, n := range []int{0, 8, 9, 10, 11, 256, 257, 1 << 32, 1<<32 + 1, -1, -7, math.MinInt, math.MinInt + 1, math.MaxInt} {
		if got := expfmt.Op(n); got != "" {
			t.Errorf("Op(%d) = %q", n, got)
		}
	}
}

// P15.2: the document's examples.
func TestShowExamples(t *testing.T) {
	a, b, c := v("a"), v("b"), v("c")
	wantShow(t, op(api.OpSub, a, op(api.OpSub, b, c)), "a - (b - c)")
	wantShow(t, node(api.EProj, "b", "", app(node(api.EFn, "x", "Int", v("x")), a)), "(fn x: Int => x)(a).b")
	wantShow(t, node(api.EIf, "", "", bit(1), node(api.ERec, "a", "", str("q")), node(api.EAsc, "", "?", b)), `if true then {a = "q"} else (b : ?)`)
	wantShow(t, op(api.OpCat, node(api.ECall, "f", "Int", a, b), node(api.ECall, "g", "")), "call f[Int](a, b) ++ call g()")
}

// P15.2: each kind of expression.
func TestShowKinds(t *testing.T) {
	a, b, c := v("a"), v("b"), v("c")
	for _, x := range []struct {
		want string
		e    api.Exp
	}{
		{"0", num(0)}, {"7", num(7)}, {"10", num(10)}, {"1000000007", num(1000000007)}, {"9223372036854775807", num(math.MaxInt64)},
		{"false", bit(0)}, {"true", bit(1)},
		{`""`, str("")}, {`"x"`, str("x")}, {`"let x = 1 in (x)"`, str("let x = 1 in (x)")}, {`"\"\\\n"`, str("\"\\\n")}, {`"\x00\xff\xc3\xa9%d"`, str("\x00\xffé%d")},
		{"a", a}, {"abcdefgh", v("abcdefgh")}, {"x0y", v("x0y")},
		{"let a = b in c", node(api.ELet, "a", "", b, c)}, {"let a: Int = b in c", node(api.ELet, "a", "Int", b, c)},
		{"let f: (Int -> ?) -> {a: X, b: {}} = b in c", node(api.ELet, "f", "(Int->?)->{b:{},a:X}", b, c)},
		{"if a then b else c", node(api.EIf, "", "", a, b, c)},
		{"fn a => b", node(api.EFn, "a", "", b)}, {"fn a: String => b", node(api.EFn, "a", "String", b)}, {"fn a: Int -> Int => b", node(api.EFn, "a", "Int -> Int", b)},
		{"a(b)", app(a, b)}, {"a(b)(c)", app(app(a, b), c)}, {"a(b(c))", app(a, app(b, c))},
		{"{}", node(api.ERec, "", "")}, {"{a = b}", node(api.ERec, "a", "", b)}, {"{a = b, b = c}", node(api.ERec, "a b", "", b, c)},
		{"{a = 1, b = 2, c = 3, d = 4, e = 5, f = {g = 6}}", node(api.ERec, "a b c d e f", "", num(1), num(2), num(3), num(4), num(5), node(api.ERec, "g", "", num(6)))},
		{"a.b", node(api.EProj, "b", "", a)}, {"a.b.a", node(api.EProj, "a", "", node(api.EProj, "b", "", a))}, {"1.a", node(api.EProj, "a", "", num(1))},
		{"a + b", op(1, a, b)}, {"a - b", op(2, a, b)}, {"a * b", op(3, a, b)}, {"a / b", op(4, a, b)}, {"a ++ b", op(5, a, b)}, {"a < b", op(6, a, b)}, {"a == b", op(7, a, b)},
		{"(a : Int)", node(api.EAsc, "", "Int", a)}, {"((a : Int) : ?)", node(api.EAsc, "", "?", node(api.EAsc, "", "Int", a))}, {"(a : Top -> {b: ?})", node(api.EAsc, "", "Top -> {b: ?}", a)},
		{"call f()", node(api.ECall, "f", "")}, {"call f(a)", node(api.ECall, "f", "", a)}, {"call f(a, b, c, 1)", node(api.ECall, "f", "", a, b, c, num(1))},
		{"call f[Int]()", node(api.ECall, "f", "Int")}, {"call f[X, {a: ?, b: Top}, Int -> Int](a)", node(api.ECall, "f", "X;{a:?,b:Top};Int->Int", a)},
		{"call f(call g[Int -> Int](call h()))", node(api.ECall, "f", "", node(api.ECall, "g", "Int->Int", node(api.ECall, "h", "")))},
	} {
		wantShow(t, x.e, x.want)
	}
}

// P15.2: EStr is written as lex.Quote does it, whatever its bytes are.
func TestShowStrings(t *testing.T) {
	for c := range 256 {
		for _, s := range []string{string([]byte{byte(c)}), strings.Repeat(string([]byte{byte(c)}), api.MaxStr)} {
			wantShow(t, str(s), lex.Quote(s))
			wantShow(t, str(s+strings.Repeat("a", api.MaxStr)), "")
		}
	}
}

// A place is where a Kid may stand: between these texts, at this level.
type place struct {
	before, after string
	level         int
	with          func(e api.Exp) api.Exp
}

func places() []place {
	a, b := v("a"), v("b")
	l := []place{
		{"let a = ", " in b", 0, func(e api.Exp) api.Exp { return node(api.ELet, "a", "", e, b) }},
		{"let a: Int = b in ", "", 0, func(e api.Exp) api.Exp { return node(api.ELet, "a", "Int", b, e) }},
		{"if ", " then a else b", 0, func(e api.Exp) api.Exp { return node(api.EIf, "", "", e, a, b) }},
		{"if a then ", " else b", 0, func(e api.Exp) api.Exp { return node(api.EIf, "", "", a, e, b) }},
		{"if a then b else ", "", 0, func(e api.Exp) api.Exp { return node(api.EIf, "", "", a, b, e) }},
		{"fn a => ", "", 0, func(e api.Exp) api.Exp { return node(api.EFn, "a", "", e) }},
		{"", "(b)", 4, func(e api.Exp) api.Exp { return app(e, b) }},
		{"a(", ")", 0, func(e api.Exp) api.Exp { return app(a, e) }},
		{"", ".b", 4, func(e api.Exp) api.Exp { return node(api.EProj, "b", "", e) }},
		{"{a = ", ", b = b}", 0, func(e api.Exp) api.Exp { return node(api.ERec, "a b", "", e, b) }},
		{"{a = a, b = ", "}", 0, func(e api.Exp) api.Exp { return node(api.ERec, "a b", "", a, e) }},
		{"(", " : ? -> ?)", 0, func(e api.Exp) api.Exp { return node(api.EAsc, "", "? -> ?", e) }},
		{"call f(", ", b)", 0, func(e api.Exp) api.Exp { return node(api.ECall, "f", "", e, b) }},
		{"call f[Int, Bool](a, ", ")", 0, func(e api.Exp) api.Exp { return node(api.ECall, "f", "Int;Bool", a, e) }},
	}
	for _, x := range []struct {
		sign                string
		number, left, right int
	}{{"+", 1, 2, 3}, {"-", 2, 2, 3}, {"*", 3, 3, 4}, {"/", 4, 3, 4}, {"++", 5, 2, 3}, {"<", 6, 2, 2}, {"==", 7, 2, 2}} {
		l = append(l, place{"", " " + x.sign + " b", x.left, func(e api.Exp) api.Exp { return op(x.number, e, b) }})
		l = append(l, place{"a " + x.sign + " ", "", x.right, func(e api.Exp) api.Exp { return op(x.number, a, e) }})
	}
	return l
}

// A filler is an expression with its text and its precedence.
type filler struct {
	text       string
	precedence int
	e          api.Exp
}

func fillers() []filler {
	x, y := v("x"), v("y")
	return []filler{
		{"let x = y in x", 0, node(api.ELet, "x", "", y, x)}, {"let x: Int = y in x", 0, node(api.ELet, "x", "Int", y, x)},
		{"if x then y else x", 0, node(api.EIf, "", "", x, y, x)}, {"fn x => y", 0, node(api.EFn, "x", "", y)}, {"fn x: ? => y", 0, node(api.EFn, "x", "?", y)},
		{"x < y", 1, op(6, x, y)}, {"x == y", 1, op(7, x, y)},
		{"x + y", 2, op(1, x, y)}, {"x - y", 2, op(2, x, y)}, {"x ++ y", 2, op(5, x, y)},
		{"x * y", 3, op(3, x, y)}, {"x / y", 3, op(4, x, y)},
		{"x(y)", 4, app(x, y)}, {"x.y", 4, node(api.EProj, "y", "", x)},
		{"0", 5, num(0)}, {"1", 5, num(1)}, {"3", 5, num(3)}, {"5", 5, num(5)}, {"6", 5, num(6)}, {"7", 5, num(7)}, {"false", 5, bit(0)}, {"true", 5, bit(1)}, {`"+"`, 5, str("+")}, {"x", 5, x},
		{"{}", 5, node(api.ERec, "", "")}, {"{x = y}", 5, node(api.ERec, "x", "", y)}, {"(x : Int)", 5, node(api.EAsc, "", "Int", x)}, {"call x()", 5, node(api.ECall, "x", "")}, {"call x[Int](y)", 5, node(api.ECall, "x", "Int", y)},
	}
}

// P15.2: in each place each kind of expression stands in parentheses exactly if it must.
func TestShowLevels(t *testing.T) {
	for _, f := range fillers() {
		wantShow(t, f.e, f.text)
		for _, p := range places() {
			text := f.text
			if f.precedence < p.level {
				text = "(" + text + ")"
			}
			wantShow(t, p.with(f.e), p.before+text+p.after)
		}
	}
}

// P15.2: operators that follow one another.
func TestShowChains(t *testing.T) {
	a, b, c, d := v("a"), v("b"), v("c"), v("d")
	for want, e := range map[string]api.Exp{
		"a - b - c - d":                op(2, op(2, op(2, a, b), c), d),
		"a - (b - (c - d))":            op(2, a, op(2, b, op(2, c, d))),
		"a + b - c ++ d":               op(5, op(2, op(1, a, b), c), d),
		"a / b * c / d":                op(4, op(3, op(4, a, b), c), d),
		"a / (b * (c / d))":            op(4, a, op(3, b, op(4, c, d))),
		"a * b + c * d":                op(1, op(3, a, b), op(3, c, d)),
		"(a + b) * (c + d)":            op(3, op(1, a, b), op(1, c, d)),
		"a * b < c ++ d":               op(6, op(3, a, b), op(5, c, d)),
		"(a < b) < c":                  op(6, op(6, a, b), c),
		"a == (b == c)":                op(7, a, op(7, b, c)),
		"(a == b) + (c < d)":           op(1, op(7, a, b), op(6, c, d)),
		"a.b * c(d)":                   op(3, node(api.EProj, "b", "", a), app(c, d)),
		"(a * b).c":                    node(api.EProj, "c", "", op(3, a, b)),
		"(a.b - c)(d + 1).e":           node(api.EProj, "e", "", app(op(2, node(api.EProj, "b", "", a), c), op(1, d, num(1)))),
		"(let a = b in c) + d":         op(1, node(api.ELet, "a", "", b, c), d),
		"let a = b in c + d":           node(api.ELet, "a", "", b, op(1, c, d)),
		"a + (if b then c else d)":     op(1, a, node(api.EIf, "", "", b, c, d)),
		"if fn a => b then c else d":   node(api.EIf, "", "", node(api.EFn, "a", "", b), c, d),
		"(fn a => b)((fn c => d)(a))":  app(node(api.EFn, "a", "", b), app(node(api.EFn, "c", "", d), a)),
		"fn a => fn b => a(fn c => d)": node(api.EFn, "a", "", node(api.EFn, "b", "", app(a, node(api.EFn, "c", "", d)))),
		"(fn a => b : Int -> Int)(c)":  app(node(api.EAsc, "", "Int -> Int", node(api.EFn, "a", "", b)), c),
	} {
		wantShow(t, e, want)
	}
}

// slowShow writes the document's definition down once more: a pattern for each kind, in which # and a digit stand for
// the next Kid at that level.
func slowShow(e api.Exp) string {
	if !exp.Right(e) {
		return ""
	}
	name, args, kids := e.Name, "", strings.Join(slices.Repeat([]string{"#0"}, len(e.Kids)), ", ")
	if len(e.Types) > 0 {
		name, args = e.Name+": "+tyfmt.Show(e.Types[0]), "["+tyfmt.List(e.Types)+"]"
	}
	pattern := ""
	switch e.K {
	case 1:
		return fmt.Sprint(e.N)
	case 2:
		return fmt.Sprint(e.N == 1)
	case 3:
		return lex.Quote(e.Name)
	case 9:
		var fields []string
		for _, s := range e.Labels {
			fields = append(fields, s+" = #0")
		}
		pattern = "{" + strings.Join(fields, ", ") + "}"
	case 11:
		pattern = []string{1: "#2 + #3", 2: "#2 - #3", 3: "#3 * #4", 4: "#3 / #4", 5: "#2 ++ #3", 6: "#2 < #2", 7: "#2 == #2"}[e.N]
	case 12:
		pattern = "(#0 " + name + ")"
	default:
		pattern = []string{4: name, 5: "let " + name + " = #0 in #0", 6: "if #0 then #0 else #0", 7: "fn " + name + " => #0", 8: "#4(#0)", 10: "#4." + name, 13: "call " + e.Name + args + "(" + kids + ")"}[e.K]
	}
	return slowFill(pattern, e.Kids)
}

func slowFill(pattern string, kids []api.Exp) string {
	parts := strings.Split(pattern, "#")
	text := parts[0]
	for i, part := range parts[1:] {
		kid := slowShow(kids[i])
		if slowPrecedence(kids[i]) < int(part[0]-'0') {
			kid = "(" + kid + ")"
		}
		text += kid + part[1:]
	}
	return text
}

func slowPrecedence(e api.Exp) int {
	if e.K == 11 {
		return []int{0, 2, 2, 3, 3, 2, 1, 1}[e.N]
	}
	return []int{0, 5, 5, 5, 5, 0, 0, 0, 4, 5, 4, 0, 5, 5}[e.K]
}

// exact writes every field, at every level; nil and empty lists come out alike.
func exact(e api.Exp) string {
	var kids, ts []string
	for _, kid := range e.Kids {
		kids = append(kids, exact(kid))
	}
	for _, x := range e.Types {
		ts = append(ts, tyfmt.Show(x))
	}
	return fmt.Sprintf("(%d %d %q %v %q %q %s)", e.K, e.N, e.Name, e.Has, ts, e.Labels, kids)
}

// reader reads a text back by the grammar of the language.
type reader struct {
	t      *testing.T
	text   string
	tokens []api.Token
}

func (r *reader) fail() { r.t.Fatalf("%.300q cannot be read, with %.300v left", r.text, r.tokens) }

func (r *reader) pass() api.Token {
	x := r.tokens[0]
	if len(r.tokens) > 1 {
		r.tokens = r.tokens[1:]
	}
	return x
}

// skip passes the token if it is this word or sign.
func (r *reader) skip(s string) bool {
	if r.tokens[0].S != s || r.tokens[0].K == api.TkStr {
		return false
	}
	r.pass()
	return true
}

func (r *reader) want(s string) {
	if !r.skip(s) {
		r.fail()
	}
}

func (r *reader) ty() api.Ty {
	x, after, err := tyread.Read(r.tokens, 0, 1)
	if err != nil {
		r.fail()
	}
	r.tokens = r.tokens[after:]
	return x
}

// list reads what comes up to the end, separated by commas.
func (r *reader) list(end string, each func()) {
	for n := 0; !r.skip(end); n++ {
		if n > 0 {
			r.want(",")
		}
		each()
	}
}

func (r *reader) binds(end, sign string) []api.Bind {
	var l []api.Bind
	r.list(end, func() {
		b := api.Bind{Name: r.pass().S}
		r.want(sign)
		b.Type = r.ty()
		l = append(l, b)
	})
	return l
}

func (r *reader) def() api.Def {
	var d api.Def
	r.want("def")
	d.Name = r.pass().S
	if r.skip("[") {
		d.Binders = r.binds("]", "<:")
	}
	r.want("(")
	d.Params = r.binds(")", ":")
	r.want(":")
	d.Result = r.ty()
	r.want("=")
	d.Body = r.exp()
	return d
}

func (r *reader) exp() api.Exp {
	var e api.Exp
	switch {
	case r.skip("let"):
		e = r.bound(api.ELet)
		r.then(&e, "=", "in")
	case r.skip("fn"):
		e = r.bound(api.EFn)
		r.then(&e, "=>")
	case r.skip("if"):
		e = api.Exp{K: api.EIf, Kids: []api.Exp{r.exp()}}
		r.then(&e, "then", "else")
	default:
		e = r.sum()
		for s, n := range map[string]int{"<": api.OpLess, "==": api.OpSame} {
			if r.skip(s) {
				return op(n, e, r.sum())
			}
		}
	}
	return e
}

func (r *reader) bound(k int) api.Exp {
	e := api.Exp{K: k, Name: r.pass().S}
	if r.skip(":") {
		e.Types = []api.Ty{r.ty()}
	}
	return e
}

// then reads an expression behind each of these words.
func (r *reader) then(e *api.Exp, words ...string) {
	for _, s := range words {
		r.want(s)
		e.Kids = append(e.Kids, r.exp())
	}
}

func (r *reader) sum() api.Exp {
	return r.chain(r.product, map[string]int{"+": api.OpAdd, "-": api.OpSub, "++": api.OpCat})
}

func (r *reader) product() api.Exp {
	return r.chain(r.postfix, map[string]int{"*": api.OpMul, "/": api.OpDiv})
}

func (r *reader) chain(part func() api.Exp, signs map[string]int) api.Exp {
	e := part()
	for {
		n, ok := signs[r.tokens[0].S]
		if !ok || r.tokens[0].K != api.TkSign {
			return e
		}
		r.pass()
		e = op(n, e, part())
	}
}

func (r *reader) postfix() api.Exp {
	e := r.atom()
	for {
		switch {
		case r.skip("("):
			e = app(e, r.exp())
			r.want(")")
		case r.skip("."):
			e = node(api.EProj, r.pass().S, "", e)
		default:
			return e
		}
	}
}

func (r *reader) atom() api.Exp {
	switch {
	case r.skip("true"):
		return bit(1)
	case r.skip("false"):
		return bit(0)
	case r.skip("("):
		e := r.exp()
		if r.skip(":") {
			e = api.Exp{K: api.EAsc, Types: []api.Ty{r.ty()}, Kids: []api.Exp{e}}
		}
		r.want(")")
		return e
	case r.skip("{"):
		e := api.Exp{K: api.ERec}
		r.list("}", func() {
			e.Labels = append(e.Labels, r.pass().S)
			r.then(&e, "=")
		})
		return e
	case r.skip("call"):
		e := api.Exp{K: api.ECall, Name: r.pass().S, Has: r.skip("[")}
		if e.Has {
			r.list("]", func() { e.Types = append(e.Types, r.ty()) })
		}
		r.want("(")
		r.list(")", func() { e.Kids = append(e.Kids, r.exp()) })
		return e
	}
	x := r.pass()
	k, ok := map[int]int{api.TkInt: api.EInt, api.TkStr: api.EStr, api.TkName: api.EVar}[x.K]
	if !ok {
		r.fail()
	}
	return api.Exp{K: k, N: x.N, Name: x.S}
}

func read[T any](t *testing.T, text string, whole func(r *reader) T) T {
	t.Helper()
	tokens, err := lex.All(text)
	if err != nil {
		t.Fatalf("%.300q: %v", text, err)
	}
	r := &reader{t, text, tokens}
	x := whole(r)
	if r.tokens[0].K != api.TkEnd {
		r.fail()
	}
	return x
}

// wantRead holds a text of a valid expression against the definition, and reads it back as that expression.
func wantRead(t *testing.T, e api.Exp) {
	t.Helper()
	wantShow(t, e, slowShow(e))
	if got := read(t, expfmt.Show(e), (*reader).exp); !exp.Same(got, e) {
		t.Errorf("%.300q is read as %s, not as %s", expfmt.Show(e), exact(got), exact(e))
	}
}

// combined lists what can be made of some expressions: one of them, two, or three.
func combined(l, pairs, triples []api.Exp) []api.Exp {
	var made []api.Exp
	for _, a := range l {
		for _, s := range []string{"", "Int", "?"} {
			made = append(made, node(api.EFn, "x", s, a), node(api.ECall, "f", s, a))
		}
		made = append(made, node(api.EProj, "a", "", a), node(api.ERec, "a", "", a), node(api.EAsc, "", "Int", a), node(api.EAsc, "", "Int -> Int", a))
	}
	for _, a := range pairs {
		for _, b := range pairs {
			for n := 1; n <= 7; n++ {
				made = append(made, op(n, a, b))
			}
			made = append(made, app(a, b), node(api.ELet, "x", "", a, b), node(api.ELet, "x", "Int", a, b), node(api.ERec, "a b", "", a, b), node(api.ECall, "f", "", a, b))
		}
	}
	for _, a := range triples {
		for _, b := range triples {
			for _, c := range triples {
				made = append(made, node(api.EIf, "", "", a, b, c))
			}
		}
	}
	return made
}

// P15.4: no two of many small expressions have the same text, and each text is read as its expression.
func TestDifferent(t *testing.T) {
	atoms := []api.Exp{num(0), num(1), num(10), bit(0), bit(1), str(""), str("x"), str("x\""), v("x"), v("f"), v("a"), v("int"), node(api.ERec, "", ""), node(api.ECall, "f", ""), node(api.ECall, "x", "Int")}
	few := []api.Exp{num(1), v("x")}
	second := combined(atoms, few, few)
	third := combined(second, second[len(atoms)*8:], few)
	seen := map[string]string{}
	for _, e := range slices.Concat(atoms, second, third) {
		text, whole := expfmt.Show(e), exact(e)
		if other, ok := seen[text]; ok && other != whole || text == "" {
			t.Fatalf("%q is the text of %s and of %s", text, whole, other)
		}
		seen[text] = whole
		wantRead(t, e)
	}
	if len(seen) < 50000 {
		t.Errorf("only %d texts", len(seen))
	}
}

// random makes expressions that are valid, or mostly not if wild.
type random struct {
	*rand.Rand
	wild bool
}

func (r random) name() string {
	l := []string{"x", "y", "a1", "f", "letx", "abcdefgh", "", "X", "let", "abcdefghi", "\xff"}
	if !r.wild {
		l = l[:6]
	}
	return l[r.Intn(len(l))]
}

func (r random) types(least, most int) []api.Ty {
	l := types("Int;Bool;String;Top;?;X;{};Int -> Int;(X -> ?) -> {a: Top, b: {c: Int}};Z1;{a1: ?, b: ?} -> {}")
	if r.wild {
		l = append(l, api.Ty{}, api.Ty{K: api.TSeal, N: 3}, api.Ty{K: api.TFun, Args: []api.Ty{l[0], {K: api.TSeal, N: 1}}})
	}
	var some []api.Ty
	for range least + r.Intn(most-least+1) {
		some = append(some, l[r.Intn(len(l))])
	}
	return some
}

func (r random) exp(deep int) api.Exp {
	e := api.Exp{K: 1 + r.Intn(13)}
	if deep == 0 {
		e.K = 1 + r.Intn(4)
	}
	count := []int{5: 2, 6: 3, 7: 1, 8: 2, 9: r.Intn(5), 10: 1, 11: 2, 12: 1, 13: r.Intn(5)}[e.K]
	switch e.K {
	case api.EInt:
		e.N = r.Intn(1 << r.Intn(62))
	case api.EBool:
		e.N = r.Intn(2)
	case api.EStr:
		l := make([]byte, r.Intn(8))
		r.Read(l)
		e.Name = string(l)
	case api.EVar, api.EProj:
		e.Name = r.name()
	case api.ELet, api.EFn:
		e.Name, e.Types = r.name(), r.types(0, 1)
	case api.ERec:
		e.Labels = []string{"a", "b", "b1", "x"}[:count]
	case api.EOp:
		e.N = 1 + r.Intn(7)
	case api.EAsc:
		e.Types = r.types(1, 1)
	case api.ECall:
		e.Name, e.Types = r.name(), r.types(0, 3)
		e.Has = len(e.Types) > 0
	}
	for range count {
		e.Kids = append(e.Kids, r.exp(deep-1))
	}
	if r.wild && r.Intn(9) == 0 {
		return mixed(r.Intn(7), e, r.exp(1))
	}
	return e
}

// mixed is e with one field of another expression.
func mixed(field int, e, other api.Exp) api.Exp {
	changes := []func(){
		func() { e.K = other.K }, func() { e.N = other.N }, func() { e.Name = other.Name }, func() { e.Has = !e.Has },
		func() { e.Types = other.Types }, func() { e.Labels = other.Labels }, func() { e.Kids = other.Kids },
	}
	changes[field]()
	return e
}

func (r random) binds(most int, names ...string) []api.Bind {
	var l []api.Bind
	for _, s := range names[:r.Intn(most+1)] {
		l = append(l, api.Bind{Name: s, Type: r.types(1, 1)[0]})
	}
	return l
}

func (r random) def() api.Def {
	return api.Def{Sig: api.Sig{Name: r.name(), Binders: r.binds(3, "X", "Y", "Z1"), Params: r.binds(4, "x", "y", "a1", "f"), Result: r.types(1, 1)[0]}, Body: r.exp(r.Intn(6))}
}

// P15.2: random expressions, valid ones and others.
func TestRandom(t *testing.T) {
	valid := 0
	for i := range 20000 {
		r := random{rand.New(rand.NewSource(int64(i))), i%2 == 1}
		e := r.exp(r.Intn(6))
		wantShow(t, e, slowShow(e))
		if exp.Right(e) {
			valid++
			wantRead(t, e)
		}
	}
	if valid < 12000 || valid > 18000 {
		t.Errorf("%d valid expressions", valid)
	}
}

func slowBinds(l []api.Bind, sign string) string {
	var texts []string
	for _, b := range l {
		texts = append(texts, b.Name+sign+tyfmt.Show(b.Type))
	}
	return strings.Join(texts, ", ")
}

func slowSig(s api.Sig) string {
	binders := slowBinds(s.Binders, " <: ")
	if len(s.Binders) > 0 {
		binders = "[" + binders + "]"
	}
	return fmt.Sprintf("def %s%s(%s): %s", s.Name, binders, slowBinds(s.Params, ": "), tyfmt.Show(s.Result))
}

// P15.3 and P15.4: random definitions, valid ones and others; a text is read as its definition.
func TestRandomDefs(t *testing.T) {
	valid := 0
	for i := range 20000 {
		r := random{rand.New(rand.NewSource(int64(i))), i%4 == 1}
		d := r.def()
		wantSig(t, d.Sig, slowSig(d.Sig))
		if !exp.Def(d) {
			wantDef(t, d, "")
			continue
		}
		valid++
		wantDef(t, d, slowSig(d.Sig)+" = "+slowShow(d.Body))
		if got := read(t, expfmt.Def(d), (*reader).def); !exp.SameDef(got, d) {
			t.Errorf("%q is read as %+v", expfmt.Def(d), got)
		}
	}
	if valid < 10000 || valid > 19000 {
		t.Errorf("%d valid definitions", valid)
	}
}

// wrong lists expressions that are not valid, by themselves.
func wrong() []api.Exp {
	x, i := v("x"), types("Int")
	seal, none := []api.Ty{{K: api.TSeal, N: 1}}, []api.Ty{{}}
	return []api.Exp{
		{}, {K: -1}, {K: 14}, {K: math.MaxInt}, {K: math.MinInt}, {K: 0, Name: "x", Kids: []api.Exp{x}},
		num(-1), num(math.MinInt), {K: api.EInt, Name: "x"}, {K: api.EInt, Kids: []api.Exp{x}}, {K: api.EInt, Has: true}, {K: api.EInt, Labels: []string{"a"}},
		bit(2), bit(-1), {K: api.EBool, Types: i}, str(strings.Repeat("a", 41)), {K: api.EStr, N: 1},
		v(""), v("X"), v("let"), v("abcdefghi"), v("x "), v("\xff"), v("Int"), {K: api.EVar, Name: "x", N: 1}, {K: api.EVar, Name: "x", Kids: []api.Exp{x}},
		node(api.ELet, "x", "", x), node(api.ELet, "x", "", x, x, x), node(api.ELet, "X", "", x, x), node(api.ELet, "x", "Int;Int", x, x), {K: api.ELet, Name: "x"}, {K: api.ELet, Name: "x", Types: seal, Kids: []api.Exp{x, x}},
		node(api.EIf, "", "", x, x), node(api.EIf, "x", "", x, x, x), node(api.EIf, "", "Int", x, x, x), {K: api.EIf}, node(api.EIf, "", "", x, x, x, x),
		node(api.EFn, "x", ""), node(api.EFn, "", "", x), node(api.EFn, "x", "", x, x), node(api.EFn, "x", "Int;?", x), {K: api.EFn, Name: "x", Types: seal, Kids: []api.Exp{x}}, {K: api.EFn, Name: "x", Types: none, Kids: []api.Exp{x}},
		node(api.EApp, "", "", x), node(api.EApp, "", "", x, x, x), node(api.EApp, "x", "", x, x), {K: api.EApp},
		node(api.ERec, "a", ""), node(api.ERec, "b a", "", x, x), node(api.ERec, "a a", "", x, x), node(api.ERec, "", "", x), node(api.ERec, "a b c d e f g", "", x, x, x, x, x, x, x), node(api.ERec, "X", "", x),
		node(api.EProj, "", "", x), node(api.EProj, "a", ""), node(api.EProj, "A", "", x), node(api.EProj, "a", "", x, x), node(api.EProj, "a", "Int", x),
		op(0, x, x), op(8, x, x), op(-1, x, x), op(math.MaxInt, x, x), {K: api.EOp, N: 1}, {K: api.EOp, N: 1, Kids: []api.Exp{x}}, {K: api.EOp, N: 1, Kids: []api.Exp{x, x, x}}, {K: api.EOp, N: 1, Name: "x", Kids: []api.Exp{x, x}},
		node(api.EAsc, "", "", x), node(api.EAsc, "", "Int;Int", x), node(api.EAsc, "", "Int"), node(api.EAsc, "x", "Int", x), {K: api.EAsc, Types: seal, Kids: []api.Exp{x}}, {K: api.EAsc, Types: none, Kids: []api.Exp{x}},
		node(api.ECall, "", ""), node(api.ECall, "F", ""), node(api.ECall, "f", "", x, x, x, x, x), node(api.ECall, "f", "Int;Int;Int;Int"), {K: api.ECall, Name: "f", Has: true}, {K: api.ECall, Name: "f", Types: i}, {K: api.ECall, Name: "f", Has: true, Types: seal}, {K: api.ECall, Name: "f", N: 1},
	}
}

// P15.2: an expression that is not valid has no text, and neither has one within which it stands; P15.3: nor has a definition.
func TestShowWrong(t *testing.T) {
	for _, e := range wrong() {
		wantShow(t, e, "")
		for _, p := range places() {
			wantShow(t, p.with(e), "")
			wantShow(t, node(api.EFn, "x", "Int", op(api.OpAdd, num(1), p.with(e))), "")
		}
		wantDef(t, def("f", nil, nil, "Int", e), "")
		wantDef(t, def("f", nil, nil, "Int", op(api.OpAdd, num(1), e)), "")
	}
}

// P15.3: the signature, with as many binders and params as there may be.
func TestSig(t *testing.T) {
	for want, s := range map[string]api.Sig{
		"def f(): Int":                     def("f", nil, nil, "Int", v("x")).Sig,
		"def g(): Int -> Int":              def("g", []api.Bind{}, []api.Bind{}, "Int -> Int", v("x")).Sig,
		"def f(x: Int): ?":                 def("f", nil, []api.Bind{bind("x", "Int")}, "?", v("x")).Sig,
		"def f[X <: Top](): X":             def("f", []api.Bind{bind("X", "Top")}, nil, "X", v("x")).Sig,
		"def f[X <: Int -> Int](x: X): {}": def("f", []api.Bind{bind("X", "Int -> Int")}, []api.Bind{bind("x", "X")}, "{}", v("x")).Sig,
		"def abcdefgh[X <: Top, Y <: {a: Int, b: ?}, Z1 <: ?](a: X -> Y, b: (Z1 -> Int) -> Bool, c: {c: X}, d: String): {a: Top}": def("abcdefgh",
			[]api.Bind{bind("X", "Top"), bind("Y", "{a: Int, b: ?}"), bind("Z1", "?")}, []api.Bind{bind("a", "X -> Y"), bind("b", "(Z1 -> Int) -> Bool"), bind("c", "{c: X}"), bind("d", "String")}, "{a: Top}", v("x")).Sig,
	} {
		wantSig(t, s, want)
		wantDef(t, api.Def{Sig: s, Body: v("x")}, want+" = x")
	}
}

// P15.3: Sig asks of a signature nothing: what is not valid is written as it is, and a type that is not valid has no text.
func TestSigWrong(t *testing.T) {
	wantSig(t, api.Sig{}, "def (): ")
	wantSig(t, api.Sig{Name: "let"}, "def let(): ")
	wantSig(t, api.Sig{Name: "\xff%d", Binders: []api.Bind{{}}, Params: []api.Bind{{}, {}}}, "def \xff%d[ <: ](: , : ): ")
	seal := api.Ty{K: api.TSeal, N: 12}
	wantSig(t, api.Sig{Name: "f", Binders: []api.Bind{{Name: "x", Type: seal}}, Params: []api.Bind{{Name: "X", Type: seal}}, Result: seal}, "def f[x <: #12](X: #12): #12")
	many := slices.Repeat([]api.Bind{bind("x", "Int")}, 1000)
	wantSig(t, api.Sig{Name: "f", Binders: many, Params: many, Result: types("Int")[0]},
		"def f[x <: Int"+strings.Repeat(", x <: Int", 999)+"](x: Int"+strings.Repeat(", x: Int", 999)+"): Int")
}

// Def: the document's example, and ordinary definitions.
func TestDef(t *testing.T) {
	wantDef(t, def("id", []api.Bind{bind("X", "Top")}, []api.Bind{bind("x", "X")}, "X", v("x")), "def id[X <: Top](x: X): X = x")
	wantDef(t, def("f", nil, nil, "Int", num(7)), "def f(): Int = 7")
	wantDef(t, def("main", nil, nil, "?", node(api.ELet, "x", "?", num(3), v("x"))), "def main(): ? = let x: ? = 3 in x")
	wantDef(t, def("bad", nil, nil, "Bool", node(api.EAsc, "", "?", num(1))), "def bad(): Bool = (1 : ?)")
	wantDef(t, def("f", nil, []api.Bind{bind("x", "Int")}, "Bool", op(api.OpLess, v("x"), num(0))), "def f(x: Int): Bool = x < 0")
	for _, f := range fillers() {
		wantDef(t, def("f", nil, nil, "Int", f.e), "def f(): Int = "+f.text)
	}
}

// Def: a definition that is not valid has no text, though its signature has one.
func TestDefWrong(t *testing.T) {
	x, y := bind("x", "Int"), bind("Y", "Int")
	seal := api.Bind{Name: "x", Type: api.Ty{K: api.TSeal, N: 1}}
	wantDef(t, api.Def{}, "")
	for _, d := range []api.Def{
		def("", nil, nil, "Int", v("x")), def("F", nil, nil, "Int", v("x")), def("let", nil, nil, "Int", v("x")), def("abcdefghi", nil, nil, "Int", v("x")),
		def("f", nil, []api.Bind{x, x}, "Int", v("x")), def("f", []api.Bind{y, y}, nil, "Int", v("x")), def("f", nil, []api.Bind{y}, "Int", v("x")), def("f", []api.Bind{x}, nil, "Int", v("x")),
		def("f", nil, []api.Bind{seal}, "Int", v("x")), def("f", []api.Bind{{Name: "X", Type: seal.Type}}, nil, "Int", v("x")), def("f", nil, []api.Bind{{Name: "x"}}, "Int", v("x")),
		{Sig: api.Sig{Name: "f"}, Body: v("x")}, {Sig: api.Sig{Name: "f", Result: seal.Type}, Body: v("x")},
		def("f", []api.Bind{bind("X", "Int"), bind("Y", "Int"), bind("Z", "Int"), bind("W", "Int")}, nil, "Int", v("x")),
		def("f", nil, []api.Bind{bind("x", "Int"), bind("y", "Int"), bind("z", "Int"), bind("w", "Int"), bind("u", "Int")}, "Int", v("x")),
	} {
		wantDef(t, d, "")
		wantSig(t, d.Sig, slowSig(d.Sig))
	}
}

// Def: as many nodes and as much depth as there may be; Show has no such limits.
func TestDefLimits(t *testing.T) {
	accesses := v("x")
	for range api.MaxDepth - 1 {
		accesses = node(api.EProj, "a", "", accesses)
	}
	text := "x" + strings.Repeat(".a", api.MaxDepth-1)
	wantDef(t, def("f", nil, nil, "Int", accesses), "def f(): Int = "+text)
	wantDef(t, def("f", nil, nil, "Int", node(api.EProj, "a", "", accesses)), "")
	wantShow(t, node(api.EProj, "a", "", accesses), text+".a")

	kid := node(api.EProj, "a", "", v("x"))
	for range api.MaxDepth - 3 {
		kid = node(api.EProj, "a", "", kid)
	}
	text = "x" + strings.Repeat(".a", api.MaxDepth-2)
	six := node(api.ERec, "a b c d e f", "", kid, kid, kid, kid, kid, kid) // 6 * 39 + 1 nodes
	params := []api.Bind{bind("x", "Int"), bind("y", "Int"), bind("z", "Int"), bind("w", "Int")}
	wantDef(t, def("f", nil, params, "Int", six), fmt.Sprintf("def f(x: Int, y: Int, z: Int, w: Int): Int = {a = %s, b = %[1]s, c = %[1]s, d = %[1]s, e = %[1]s, f = %[1]s}", text))
	wantDef(t, def("f", []api.Bind{bind("X", "Int")}, params, "Int", six), "")
	wantDef(t, def("f", nil, params, "Int", node(api.EFn, "x", "Int", num(math.MaxInt64))), "def f(x: Int, y: Int, z: Int, w: Int): Int = fn x: Int => 9223372036854775807")
}

const deep = 1 << 16

// nested is what comes of putting an expression into a place again and again.
func nested(e api.Exp, with func(e api.Exp) api.Exp) api.Exp {
	for range deep - 1 {
		e = with(e)
	}
	return e
}

// P1: as many parts nested in one another as there may be, in each place.
func TestDeep(t *testing.T) {
	inner := op(api.OpSub, v("x"), num(1))
	for _, p := range places() {
		first, open, shut := "x - 1", p.before, p.after
		if slowPrecedence(inner) < p.level {
			first = "(" + first + ")"
		}
		if slowPrecedence(p.with(inner)) < p.level {
			open, shut = open+"(", ")"+shut
		}
		want := strings.Repeat(open, deep-2) + p.before + first + p.after + strings.Repeat(shut, deep-2)
		wantShow(t, nested(inner, p.with), want)
		wantShow(t, nested(api.Exp{}, p.with), "")
		wantDef(t, def("f", nil, nil, "Int", nested(inner, p.with)), "")
	}
	under := types("Int")[0]
	for range deep - 3 {
		under = api.Ty{K: api.TRec, Labels: []string{"a"}, Args: []api.Ty{under}}
	}
	text := strings.Repeat("{a: ", deep-3) + "Int" + strings.Repeat("}", deep-3)
	wantShow(t, op(api.OpAdd, num(1), api.Exp{K: api.EFn, Name: "x", Types: []api.Ty{under}, Kids: []api.Exp{v("x")}}), "1 + (fn x: "+text+" => x)")
	wantSig(t, api.Sig{Name: "f", Binders: []api.Bind{{Name: "X", Type: under}}, Params: []api.Bind{{Name: "x", Type: under}}, Result: under}, "def f[X <: "+text+"](x: "+text+"): "+text)
}

// P1: an expression as wide as it is deep, and lists that are longer than they may be.
func TestWide(t *testing.T) {
	e, text := v("x"), "x"
	for range 15 {
		e, text = op(api.OpMul, app(e, e), num(0)), "("+text+")("+text+") * 0"
	}
	text = strings.ReplaceAll(text, "(x)(x)", "x(x)")
	wantShow(t, e, text)
	kids := slices.Repeat([]api.Exp{v("x")}, deep)
	wantShow(t, node(api.ECall, "f", "", kids...), "")
	wantShow(t, node(api.ERec, strings.Repeat("a ", deep), "", kids...), "")
	wantShow(t, api.Exp{K: api.ECall, Name: "f", Has: true, Types: slices.Repeat(types("Int"), deep)}, "")
}

// P1: a definition that is far greater than the memory it takes is not gone through.
func TestShared(t *testing.T) {
	e, under := v("x"), types("Int")[0]
	for range 100 {
		e = app(e, e)
		under = api.Ty{K: api.TFun, Args: []api.Ty{under, under}}
	}
	wantDef(t, def("f", nil, nil, "Int", e), "")
	wantDef(t, api.Def{Sig: api.Sig{Name: "f", Result: under}, Body: v("x")}, "")
	wantShow(t, app(api.Exp{}, e), "")
}

// P3: nil and empty lists are written alike.
func TestEmptyLists(t *testing.T) {
	for _, f := range fillers() {
		e := f.e
		if len(e.Types) == 0 {
			e.Types = []api.Ty{}
		}
		if len(e.Labels) == 0 {
			e.Labels = []string{}
		}
		if len(e.Kids) == 0 {
			e.Kids = []api.Exp{}
		}
		wantShow(t, e, f.text)
		wantDef(t, def("f", []api.Bind{}, []api.Bind{}, "Int", e), "def f(): Int = "+f.text)
	}
}

// P4, P5: arguments stay as they are, beyond the ends of their lists too, and a second call answers the same.
func TestUnchanged(t *testing.T) {
	roomy := func(d api.Def) api.Def {
		d.Binders = append(slices.Clone(d.Binders), bind("M", "Bool"))[:len(d.Binders)]
		d.Params = append(slices.Clone(d.Params), bind("m", "Bool"))[:len(d.Params)]
		d.Body.Kids = append(slices.Clone(d.Body.Kids), v("more"))[:len(d.Body.Kids)]
		d.Body.Types = append(slices.Clone(d.Body.Types), types("Bool")...)[:len(d.Body.Types)]
		d.Body.Labels = append(slices.Clone(d.Body.Labels), "more")[:len(d.Body.Labels)]
		return d
	}
	room := func(d api.Def) []any {
		return []any{d, d.Binders[:len(d.Binders)+1], d.Params[:len(d.Params)+1], d.Body.Kids[:len(d.Body.Kids)+1], d.Body.Types[:len(d.Body.Types)+1], d.Body.Labels[:len(d.Body.Labels)+1]}
	}
	for i := range 1000 {
		fresh := func() api.Def {
			return roomy(random{rand.New(rand.NewSource(int64(i))), i%2 == 1}.def())
		}
		d := fresh()
		shown, whole, sig := expfmt.Show(d.Body), expfmt.Def(d), expfmt.Sig(d.Sig)
		wantShow(t, d.Body, shown)
		wantDef(t, d, whole)
		wantSig(t, d.Sig, sig)
		if !reflect.DeepEqual(room(d), room(fresh())) {
			t.Fatalf("%q: changed to %+v", whole, d)
		}
	}
}
