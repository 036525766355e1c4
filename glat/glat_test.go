package glat_test

import (
	"fmt"
	"maps"
	"math"
	"math/rand"
	"slices"
	"strings"
	"testing"

	"limbeck/api"
	"limbeck/bounds"
	"limbeck/csub"
	"limbeck/glat"
	"limbeck/lat"
	"limbeck/prec"
	"limbeck/ty"
	"limbeck/tyread"
)

var (
	none    = api.Ty{}
	integer = api.Ty{K: api.TInt}
	boolean = api.Ty{K: api.TBool}
	str     = api.Ty{K: api.TStr}
	top     = api.Ty{K: api.TTop}
	unknown = api.Ty{K: api.TDyn}
	empty   = api.Ty{K: api.TRec}
)

func variable(s string) api.Ty { return api.Ty{K: api.TVar, Name: s} }

func seal(n int) api.Ty { return api.Ty{K: api.TSeal, N: n} }

func fun(a, b api.Ty) api.Ty { return api.Ty{K: api.TFun, Args: []api.Ty{a, b}} }

func rec(labels string, args ...api.Ty) api.Ty {
	return api.Ty{K: api.TRec, Labels: strings.Fields(labels), Args: args}
}

func bind(s string, a api.Ty) api.Bind { return api.Bind{Name: s, Type: a} }

// parse is the type of a text, in which Q7 stands for the seal 7.
func parse(t *testing.T, s string) api.Ty {
	t.Helper()
	a, err := tyread.Parse(s)
	if err != nil {
		t.Fatalf("%q is no type", s)
	}
	return sealed(a)
}

func sealed(a api.Ty) api.Ty {
	n := 0
	if _, err := fmt.Sscanf(a.Name, "Q%d", &n); err == nil {
		return seal(n)
	}
	for i := range a.Args { // this type is nobody else's yet
		a.Args[i] = sealed(a.Args[i])
	}
	return a
}

// types is the types that a text gives, as in "Int; X -> X".
func types(t *testing.T, s string) []api.Ty {
	t.Helper()
	var l []api.Ty
	for _, x := range strings.Split(s, ";") {
		l = append(l, parse(t, x))
	}
	return l
}

// binds is the bindings that a text gives, as in "X: Int; Y: ? -> Int".
func binds(t *testing.T, s string) []api.Bind {
	t.Helper()
	var d []api.Bind
	for _, x := range strings.Split(s, ";") {
		if name, text, ok := strings.Cut(x, ":"); ok {
			d = append(d, bind(strings.TrimSpace(name), parse(t, text)))
		}
	}
	return d
}

// short writes values for a message: a type may be great.
func short(x ...any) string {
	s := fmt.Sprint(x...)
	return s[:min(len(s), 400)]
}

// slowJoin is the document's definition, rule by rule, for arguments that are valid.
func slowJoin(d []api.Bind, a, b api.Ty) api.Ty {
	up := func(x api.Ty) api.Ty {
		for _, e := range d {
			if e.Name == x.Name {
				return e.Type
			}
		}
		return top
	}
	switch {
	case a.K == 4 || b.K == 4:
		return top
	case a.K == 5 || b.K == 5:
		return unknown
	case a.K == 6 && b.K == 6 && a.Name == b.Name, a.K == 9 && b.K == 9 && a.N == b.N:
		return a
	case a.K == 6:
		return slowJoin(d, up(a), b)
	case b.K == 6:
		return slowJoin(d, a, up(b))
	case a.K == 7 && b.K == 7:
		takes, exists := slowMeet(d, a.Args[0], b.Args[0])
		return []api.Ty{top, unknown, fun(takes, slowJoin(d, a.Args[1], b.Args[1]))}[exists]
	case a.K == 8 && b.K == 8:
		fields := map[string]api.Ty{}
		others := slowFields(b)
		for s, x := range slowFields(a) {
			if y, ok := others[s]; ok {
				fields[s] = slowJoin(d, x, y)
			}
		}
		return slowRecord(fields)
	case a.K == b.K && a.K <= 3:
		return a
	}
	return top
}

// slowMeet is the document's definition, rule by rule, for arguments that are valid.
func slowMeet(d []api.Bind, a, b api.Ty) (api.Ty, int) {
	switch {
	case a.K == 4:
		return b, 2
	case b.K == 4:
		return a, 2
	case a.K == 5 || b.K == 5:
		return unknown, 1
	case a.K == 6 && b.K == 6 && a.Name == b.Name:
		return a, 2
	case a.K == 6 || b.K == 6:
		if csub.Sure(d, a, b) {
			return a, 2
		}
		if csub.Sure(d, b, a) {
			return b, 2
		}
		if a.K == 6 && csub.Is(d, a, b) || b.K == 6 && csub.Is(d, b, a) {
			return unknown, 1
		}
	case a.K == 7 && b.K == 7:
		if gives, exists := slowMeet(d, a.Args[1], b.Args[1]); exists > 0 {
			return fun(slowJoin(d, a.Args[0], b.Args[0]), gives), exists
		}
	case a.K == 8 && b.K == 8:
		fields, least := slowFields(a), 2
		for s, y := range slowFields(b) {
			if x, ok := fields[s]; ok {
				exists := 0
				y, exists = slowMeet(d, x, y)
				least = min(least, exists)
			}
			fields[s] = y
		}
		if least > 0 {
			return slowRecord(fields), least
		}
	case a.K == b.K && (a.K <= 3 || a.K == 9 && a.N == b.N):
		return a, 2
	}
	return none, 0
}

// slowFields has the type of each label.
func slowFields(a api.Ty) map[string]api.Ty {
	m := map[string]api.Ty{}
	for i, s := range a.Labels {
		m[s] = a.Args[i]
	}
	return m
}

// slowRecord is the record of these fields.
func slowRecord(fields map[string]api.Ty) api.Ty {
	a := api.Ty{K: 8}
	for _, s := range slices.Sorted(maps.Keys(fields)) {
		a.Labels, a.Args = append(a.Labels, s), append(a.Args, fields[s])
	}
	return a
}

// want holds Join and Meet of types in that order against what is wanted.
func want(t *testing.T, d []api.Bind, a, b, join, meet api.Ty, exists int) {
	t.Helper()
	if got := glat.Join(d, a, b); !ty.Same(got, join) {
		t.Errorf("Join(%s) = %s", short(d, a, b), short(got))
	}
	if got, how := glat.Meet(d, a, b); !ty.Same(got, meet) || how != exists {
		t.Errorf("Meet(%s) = %s, %d", short(d, a, b), short(got), how)
	}
}

// wantBoth does it for both orders.
func wantBoth(t *testing.T, d []api.Bind, a, b, join, meet api.Ty, exists int) {
	t.Helper()
	want(t, d, a, b, join, meet, exists)
	want(t, d, b, a, join, meet, exists)
}

// wantSlow holds both orders against the definitions.
func wantSlow(t *testing.T, d []api.Bind, a, b api.Ty) {
	t.Helper()
	before := fmt.Sprintf("%q", []any{d, a, b})
	for _, x := range [][2]api.Ty{{a, b}, {b, a}} {
		meet, exists := slowMeet(d, x[0], x[1])
		want(t, d, x[0], x[1], slowJoin(d, x[0], x[1]), meet, exists)
	}
	if fmt.Sprintf("%q", []any{d, a, b}) != before {
		t.Errorf("the arguments are changed: %s", short(d, a, b))
	}
}

// row is two types with their join and their meet, as in "Int | ? = ? & maybe ?".
func row(t *testing.T, text string) (a, b, join, meet api.Ty, exists int) {
	t.Helper()
	given, results, ok := strings.Cut(text, "=")
	left, right, ok2 := strings.Cut(given, "|")
	above, below, ok3 := strings.Cut(results, "&")
	if !ok || !ok2 || !ok3 {
		t.Fatalf("%q is no row", text)
	}
	a, b, join = parse(t, left), parse(t, right), parse(t, above)
	below = strings.TrimSpace(below)
	if below == "never" {
		return a, b, join, none, 0
	}
	if text, ok := strings.CutPrefix(below, "maybe "); ok {
		return a, b, join, parse(t, text), 1
	}
	return a, b, join, parse(t, below), 2
}

// rows holds each row of a text, in both orders.
func rows(t *testing.T, d []api.Bind, text string) {
	t.Helper()
	for _, x := range strings.Split(text, ";") {
		a, b, join, meet, exists := row(t, x)
		wantBoth(t, d, a, b, join, meet, exists)
		wantSlow(t, d, a, b)
	}
}

// ordered holds each row of a text, in its order alone.
func ordered(t *testing.T, d []api.Bind, text string) {
	t.Helper()
	for _, x := range strings.Split(text, ";") {
		a, b, join, meet, exists := row(t, x)
		want(t, d, a, b, join, meet, exists)
		wantSlow(t, d, a, b)
	}
}

// P13.1, P13.2: the document's examples.
func TestExamples(t *testing.T) {
	if glat.Never != 0 || glat.Maybe != 1 || glat.Always != 2 {
		t.Error("how a meet exists")
	}
	rows(t, nil, "Int | ? = ? & maybe ?; ? | Top = Top & ?; ? -> Int | ? -> Int = ? & ? -> Int; Int -> Int | Bool -> Int = Top & Top -> Int; Int | Bool = Top & never; {a: ?} | {b: Int} = {} & {a: ?, b: Int}")
	rows(t, binds(t, "X: Int; Y: ?"), "X | Int = Int & X; Y | Int = ? & maybe ?")
}

// P13.1, P13.2: beside Top, and beside ?; the rule for Top comes first.
func TestEnds(t *testing.T) {
	for _, d := range [][]api.Bind{nil, binds(t, "X: Int; Y: ?; Z: Top")} {
		for _, a := range append(types(t, "Int; Bool; String; Top; ?; X; Y; Z; V; Q0; Q7; {}; {a: Int}; {a: ?}; Int -> Int; ? -> ?; Top -> X; {a: Top}; X -> Y"), seal(1<<30)) {
			wantBoth(t, d, a, top, top, a, glat.Always)
			wantBoth(t, d, fun(top, a), fun(top, top), fun(top, top), fun(top, a), glat.Always)
			wantBoth(t, d, fun(a, integer), fun(top, integer), fun(a, integer), fun(top, integer), glat.Always)
			wantBoth(t, d, rec("a b", a, top), rec("a b", top, a), rec("a b", top, top), rec("a b", a, a), glat.Always)
			if a.K == api.TTop {
				continue
			}
			wantBoth(t, d, a, unknown, unknown, unknown, glat.Maybe)
			wantBoth(t, d, fun(top, a), fun(top, unknown), fun(top, unknown), fun(top, unknown), glat.Maybe)
			wantBoth(t, d, fun(a, integer), fun(unknown, integer), unknown, fun(unknown, integer), glat.Always)
			wantBoth(t, d, rec("a b", a, integer), rec("a", unknown), rec("a", unknown), rec("a b", unknown, integer), glat.Maybe)
		}
	}
}

// P13.1, P13.2: what has no parts, of each kind, beside itself and beside others.
func TestBare(t *testing.T) {
	l := append(types(t, "Int; Bool; String; Q0; Q1; W; V; {}; {a: Int}; Int -> Int; {a: ?} -> ?"), seal(1<<30), seal(1<<30-1))
	for _, d := range [][]api.Bind{nil, binds(t, "X: Int; Y: ?")} {
		for i, a := range l {
			for j, b := range l {
				if i < 7 && i == j {
					want(t, d, a, b, a, a, glat.Always)
					want(t, d, fun(a, b), fun(a, b), fun(a, b), fun(a, b), glat.Always)
					want(t, d, rec("a b", a, b), rec("a b", b, a), rec("a b", a, b), rec("a b", a, b), glat.Always)
				} else if i < 7 {
					wantBoth(t, d, a, b, top, none, glat.Never)
					wantBoth(t, d, rec("b", a), rec("b", b), rec("b", top), none, glat.Never)
					wantBoth(t, d, fun(a, top), fun(b, top), top, fun(top, top), glat.Always)
					wantBoth(t, d, fun(top, a), fun(top, b), fun(top, top), none, glat.Never)
				}
				wantSlow(t, d, a, b)
			}
		}
	}
	rows(t, nil, "{} | Int -> Int = Top & never; {a: Int} | Int = Top & never; Int -> Int | Q1 = Top & never; ? -> ? | {a: ?} = Top & never; Q1 -> Int | Q2 -> Int = Top & Top -> Int; {a: Q1} | {a: Q1, b: Q2} = {a: Q1} & {a: Q1, b: Q2}")
}

// P13.1, P13.2: a variable joins as its bound does; it is a meet as far as its bound is known to be below the other type.
func TestVariables(t *testing.T) {
	d := binds(t, "A: Int; B: Int; C: {a: Int, b: Bool}; D: {a: Int}; E: Top; F: ?; G: {a: Int} -> Int; H: ?; M: {a: ?}; P: ? -> Int; U: {b: Bool, c: Int}; Xx: {}")
	rows(t, d, "A | A = A & A; A | B = Int & never; A | Int = Int & A; A | Bool = Top & never; A | E = Top & never; A | W = Top & never; E | E = E & E; E | Int = Top & never; E | ? = ? & maybe ?; W | W = W & W; W | V = Top & never; W | Int = Top & never; W | {} = Top & never; W | Q1 = Top & never; W | W -> W = Top & never; Q1 | C = Top & never")
	rows(t, d, "C | D = {a: Int} & never; C | U = {b: Bool} & never; D | U = {} & never; C | {a: Int} = {a: Int} & C; C | {a: Int, b: Bool} = {a: Int, b: Bool} & C; C | {a: Top} = {a: Top} & C; C | {} = {} & C; C | {a: Bool} = {a: Top} & never; C | {c: Int} = {} & never; C | {a: Int, c: Int} = {a: Int} & never; Xx | {} = {} & Xx; Xx | D = {} & never; Xx | Int = Top & never")
	// With a ? in the other type, or in the bound, nothing is sure.
	rows(t, d, "C | {a: ?} = {a: ?} & maybe ?; C | {a: ?, b: Bool} = {a: ?, b: Bool} & maybe ?; C | {c: ?} = {} & never; C | {a: ?, b: Int} = {a: ?, b: Top} & never; C | {a: ? -> Int} = {a: Top} & never; M | {a: Int} = {a: ?} & maybe ?; M | {a: ?} = {a: ?} & maybe ?; M | {} = {} & maybe ?; M | {b: Int} = {} & never; M | D = {a: ?} & never; M | M = M & M; M | {a: Top} = {a: Top} & maybe ?; M | Int = Top & never")
	rows(t, d, "F | F = F & F; F | H = ? & maybe ?; F | Int = ? & maybe ?; F | {} = ? & maybe ?; F | Q1 = ? & maybe ?; F | A = ? & maybe ?; F | M = ? & maybe ?; F | F -> F = ? & maybe ?; {a: F} | {a: Int} = {a: ?} & maybe {a: ?}; {a: F} | {a: F} = {a: F} & {a: F}; F -> A | Int -> A = ? & ? -> A; F -> A | F -> A = F -> A & F -> A")
	rows(t, d, "G | {a: Int} -> Int = {a: Int} -> Int & G; G | {a: Int, b: Int} -> Top = {a: Int, b: Int} -> Top & G; G | {} -> Int = {a: Int} -> Int & never; G | {b: Int} -> Int = {a: Int, b: Int} -> Int & never; G | {a: Int, b: ?} -> Int = {a: Int, b: ?} -> Int & maybe ?; G | {a: ?} -> Int = ? & maybe ?; G | {a: Bool} -> Int = Top & never; G | C -> Int = C -> Int & G; G | M -> Int = ? & maybe ?; G | D -> ? = D -> ? & maybe ?; G | W -> Int = Top & never; P | Int -> Int = ? & maybe ?; P | Top -> Int = ? -> Int & maybe ?; P | Int = Top & never")
	// Variables within types, on either side of functions.
	rows(t, d, "A -> A | Int -> Int = A -> Int & Int -> A; A -> A | B -> B = Top & never; A -> Top | B -> Top = Top & Int -> Top; Top -> A | Top -> B = Top -> Int & never; {a: A, b: B} | {a: Int, b: Int} = {a: Int, b: Int} & {a: A, b: B}; {a: A} | {b: A} = {} & {a: A, b: A}; C -> D | D -> C = Top & never; {a: W} | {a: V} = {a: Top} & never; {a: C} | {a: {a: ?}, c: A} = {a: {a: ?}} & maybe {a: ?, c: A}; (A -> Int) -> A | (Int -> A) -> Int = (Int -> A) -> Int & (A -> Int) -> A; (A -> ?) -> A | (Int -> A) -> Int = ? & (A -> ?) -> A")
	// Names are held against each other byte by byte, and the bounds are found by their names.
	e := binds(t, "X: Int; XX: {a: Int}; Xx: String; X1: {a: ?}")
	rows(t, e, "X | Int = Int & X; XX | {} = {} & XX; Xx | String = String & Xx; X1 | XX = {a: ?} & never; X | XX = Top & never; Xx | XX = Top & never; Xxx | String = Top & never; Xa | Xb = Top & never")
	rows(t, nil, "A | A = A & A; A | B = Top & never; A | Int = Top & never; A -> A | A -> A = A -> A & A -> A; A -> B | A -> Int = A -> Top & never; A -> ? | B -> Int = Top & maybe Top -> ?")
}

// P13.1: the bound of the first type is gone to first, also within types: where one bound is ? and the other one Top, the
// order decides.
func TestOrder(t *testing.T) {
	d := binds(t, "F: ?; E: Top; A: Int; M: {a: ?}")
	ordered(t, d, "F | E = ? & maybe ?; E | F = Top & maybe ?; F | W = ? & maybe ?; W | F = Top & maybe ?; F | A = ? & maybe ?; A | F = ? & maybe ?")
	ordered(t, d, "{a: F} | {a: E} = {a: ?} & maybe {a: ?}; {a: E} | {a: F} = {a: Top} & maybe {a: ?}; {a: F} | {a: E, b: A} = {a: ?} & maybe {a: ?, b: A}; {a: E, b: A} | {a: F} = {a: Top} & maybe {a: ?, b: A}; {a: W, b: A} | {a: F} = {a: Top} & maybe {a: ?, b: A}; {a: F, b: A} | {a: W} = {a: ?} & maybe {a: ?, b: A}")
	ordered(t, d, "A -> F | A -> E = A -> ? & maybe A -> ?; A -> E | A -> F = A -> Top & maybe A -> ?; F -> A | E -> A = ? & ? -> A; E -> A | F -> A = ? & Top -> A; (F -> A) -> A | (E -> A) -> A = (? -> A) -> A & ? -> A; (E -> A) -> A | (F -> A) -> A = (Top -> A) -> A & ? -> A")
	ordered(t, d, "{a: F -> A} | {a: E -> A} = {a: ?} & {a: ? -> A}; {a: E -> A} | {a: F -> A} = {a: ?} & {a: Top -> A}; A -> F -> A | A -> E -> A = A -> ? & A -> ? -> A; A -> E -> A | A -> F -> A = A -> ? & A -> Top -> A; {b: F -> A} -> A | {b: E -> A} -> A = {b: ? -> A} -> A & {b: ?} -> A; {b: E -> A} -> A | {b: F -> A} -> A = {b: Top -> A} -> A & {b: ?} -> A")
	ordered(t, d, "M | {a: E} = {a: ?} & maybe ?; {a: E} | M = {a: ?} & maybe ?; M | {a: F} = {a: ?} & maybe ?")
}

// P13.2: whether a variable is surely below a type depends on all bounds of the variables in that one, too.
func TestOtherVariables(t *testing.T) {
	rows(t, binds(t, "F: Top -> Int; X: ?; Y: Int; Z: {a: ?}"), "F | Y -> Int = Y -> Int & F; F | V -> Int = V -> Int & F; F | X -> Int = X -> Int & maybe ?; F | Z -> Int = Z -> Int & maybe ?; F | {a: X, b: Y} -> Int = {a: X, b: Y} -> Int & maybe ?; F | {a: V, b: Y} -> Int = {a: V, b: Y} -> Int & F; F | X -> Bool = X -> Top & never")
	rows(t, binds(t, "F: {c: Int} -> Int; X: {c: Int}; Y: Int; Z: {c: ?}"), "F | X -> Int = X -> Int & F; F | Y -> Int = Top & never; F | Z -> Int = ? & maybe ?; F | {c: Y} -> Top = {c: Y} -> Top & F; F | {c: Y} -> ? = {c: Y} -> ? & maybe ?; F | W -> Int = Top & never")
}

// P13.1, P13.2: functions. How the meet of what they take exists decides over the nearest join above it, and no further.
func TestFunctions(t *testing.T) {
	rows(t, nil, "Int -> Int | Int -> Int = Int -> Int & Int -> Int; Int -> Int | Int -> Bool = Int -> Top & never; Int -> Int | Bool -> Bool = Top & never; Top -> Int | Int -> Top = Int -> Top & Top -> Int; {a: Int} -> {a: Int} | {b: Int} -> {b: Int} = {a: Int, b: Int} -> {} & {} -> {a: Int, b: Int}; {a: Int} -> Int | {a: Bool} -> Int = Top & {a: Top} -> Int")
	rows(t, nil, "? -> Int | Int -> Int = ? & ? -> Int; ? -> Int | Top -> Bool = ? -> Top & never; ? -> Int | Top -> Int = ? -> Int & Top -> Int; Int -> ? | Int -> Bool = Int -> ? & maybe Int -> ?; Int -> ? | Bool -> Int = Top & maybe Top -> ?; Int -> ? | Int -> ? = Int -> ? & maybe Int -> ?; Top -> ? | Int -> Top = Int -> Top & Top -> ?; ? -> ? | ? -> ? = ? & maybe ? -> ?; ? -> Int | Int -> Bool = ? & never; ? -> ? | Int = Top & never")
	rows(t, nil, "{a: ?} -> Int | {a: Int} -> Int = ? & {a: ?} -> Int; {a: ?} -> Int | {b: Int} -> Int = {a: ?, b: Int} -> Int & {} -> Int; {a: ?, b: Int} -> Int | {a: Int, b: Bool} -> Int = Top & {a: ?, b: Top} -> Int; (? -> Int) -> Int | (Int -> Int) -> Int = (? -> Int) -> Int & ? -> Int; (Int -> ?) -> Int | (Int -> Int) -> Int = ? & (Int -> ?) -> Int; (Int -> Int) -> Int | (Int -> Bool) -> Int = Top & (Int -> Top) -> Int; ((Int -> ?) -> Int) -> Int | ((Int -> Int) -> Int) -> Int = ((Int -> ?) -> Int) -> Int & ? -> Int; ((? -> Int) -> Int) -> Int | ((Int -> Int) -> Int) -> Int = (? -> Int) -> Int & ((? -> Int) -> Int) -> Int")
	rows(t, nil, "{a: Int -> Int, b: ?} | {a: Bool -> Int, b: Int} = {a: Top, b: ?} & maybe {a: Top -> Int, b: ?}; {a: ? -> Int, b: Int} | {a: Bool -> Int, b: Int} = {a: ?, b: Int} & {a: ? -> Int, b: Int}; Int -> ? -> Int | Int -> Bool -> Int = Int -> ? & Int -> ? -> Int; Int -> Int -> ? | Bool -> Int -> Int = Top & maybe Top -> Int -> ?; Int -> Int -> ? | Int -> Int -> Int = Int -> Int -> ? & maybe Int -> Int -> ?; {a: ? -> Int} -> Int | {a: Int -> Int} -> Int = {a: ? -> Int} -> Int & {a: ?} -> Int; {a: Int -> ?} -> Int | {a: Int -> Int} -> Int = ? & {a: Int -> ?} -> Int")
}

// P13.1, P13.2: records. The join has the fields of both; the meet all, and it exists as the least certain one of those
// of both does.
func TestRecords(t *testing.T) {
	rows(t, nil, "{} | {} = {} & {}; {} | {a: ?} = {} & {a: ?}; {a: Int} | {b: Int} = {} & {a: Int, b: Int}; {a: Int, c: Int} | {b: ?} = {} & {a: Int, b: ?, c: Int}; {b: ?} | {a: Bool, b: Int, c: String} = {b: ?} & maybe {a: Bool, b: ?, c: String}; {a: Int, b: Bool} | {a: Int, b: Int} = {a: Int, b: Top} & never; {a: Top, b: Int} | {a: Int, b: Top} = {a: Top, b: Top} & {a: Int, b: Int}; {z: ?} | {a: Int} = {} & {a: Int, z: ?}")
	rows(t, nil, "{a: ?} | {a: Int} = {a: ?} & maybe {a: ?}; {a: ?} | {a: ?} = {a: ?} & maybe {a: ?}; {a: ?} | {a: Top} = {a: Top} & {a: ?}; {a: ?, b: Int} | {a: Int, b: Bool} = {a: ?, b: Top} & never; {a: Int, b: ?} | {a: Bool, b: Int} = {a: Top, b: ?} & never; {a: ?, b: Int} | {a: Int, b: Int} = {a: ?, b: Int} & maybe {a: ?, b: Int}; {a: Int, b: ?} | {a: Int, b: Int} = {a: Int, b: ?} & maybe {a: Int, b: ?}; {a: Int, b: ?, c: Int} | {a: Int, b: Int, c: Int} = {a: Int, b: ?, c: Int} & maybe {a: Int, b: ?, c: Int}")
	rows(t, nil, "{a: {a: ?}} | {a: {b: Int}} = {a: {}} & {a: {a: ?, b: Int}}; {a: {a: ?}} | {a: {a: Bool}} = {a: {a: ?}} & maybe {a: {a: ?}}; {a: {a: Int}, b: ?} | {a: {}, c: Int} = {a: {}} & {a: {a: Int}, b: ?, c: Int}; {a: {a: Int}, b: ?} | {a: {a: Bool}, b: Int} = {a: {a: Top}, b: ?} & never; {a: Int, a0: ?, aa: String} | {a: String, aa: String} = {a: Top, aa: String} & never; {a: Int, a0: Bool, aa: ?} | {a0: Bool, ab: ?} = {a0: Bool} & {a: Int, a0: Bool, aa: ?, ab: ?}; {a: Int, c: Int, e: ?} | {b: Int, c: ?, d: Int, f: Int} = {c: ?} & maybe {a: Int, b: Int, c: ?, d: Int, e: ?, f: Int}")
}

// P13.1, P13.2: all choices of up to six fields on both sides, and one field of other types.
func TestRecordChoices(t *testing.T) {
	labels := strings.Fields("a a0 b c1 c2 z")
	own := types(t, "Int; {a: ?, b: Int}; ?; {} -> Int; Top; X")
	other := types(t, "Top; {b: Top, c: X}; Top; {a: Int} -> Top; {}; {}")
	d := binds(t, "X: {a: Int}; Y: ?")
	chosen := func(bits int, l []api.Ty) api.Ty {
		a := empty
		for i, s := range labels {
			if bits>>i&1 == 1 {
				a.Labels, a.Args = append(a.Labels, s), append(a.Args, l[i])
			}
		}
		return a
	}
	for x := range 64 {
		for y := range 64 {
			a, b := chosen(x, own), chosen(y, other)
			wantSlow(t, d, a, b)
			if meet, exists := glat.Meet(d, a, b); exists != glat.Always || len(meet.Args) == 0 != (x|y == 0) {
				t.Errorf("Meet(%v, %v) = %v, %d", a, b, meet, exists)
			}
			for i := range b.Args {
				for _, x := range []api.Ty{unknown, boolean, variable("Y")} {
					c := b
					c.Args = slices.Clone(b.Args)
					c.Args[i] = x
					wantSlow(t, d, a, c)
				}
			}
		}
	}
}

// P13.3: the document's examples, lists of no types and of one, and what is Never.
func TestLists(t *testing.T) {
	d := binds(t, "X: Int; Y: ?; E: Top; D: {a: Int}")
	for _, x := range strings.Split("Int; Int; ? = ? & maybe ?| Top; Int; Int = Top & Int| Int = Int & Int| ? = ? & ?| Top = Top & Top| X = X & X| Q3 = Q3 & Q3| Int; Bool = Top & never| Int; Bool; ? = Top & never| Int; ?; Bool = ? & maybe ?| ?; Int; Bool = ? & maybe ?| Int; Top; ? = Top & maybe ?| Top; ?; Top = Top & ?| {a: ?}; {b: Int}; {} = {} & {a: ?, b: Int}| {a: ?}; {a: Int}; {b: Int} = {} & maybe {a: ?, b: Int}| {b: Int}; {a: ?}; {a: Int} = {} & maybe {a: ?, b: Int}| X; Int; X = Int & X| D; {a: ?}; {} = {} & maybe ?| {}; {a: Top}; D = {} & D| Y; E; E = ? & maybe ?| Y; E; X = ? & maybe ?| Int -> Int; Bool -> Int; ? -> Int = Top & Top -> Int| ? -> Int; Int -> Int; Int = ? & never| {}; {}; {}; {a: Int}; {}; {a: ?} = {} & maybe {a: ?}", "|") {
		given, results, _ := strings.Cut(x, "=")
		l := types(t, given)
		_, _, join, meet, exists := row(t, "Int | Int = "+results)
		wantLists(t, d, l, join, meet, exists)
	}
	for _, d := range [][]api.Bind{nil, d, binds(t, "X: Int; X: Int")} {
		wantLists(t, d, nil, none, none, glat.Never)
		wantLists(t, d, []api.Ty{}, none, none, glat.Never)
		for _, a := range types(t, "Int; ?; Top; X; {a: X -> ?}") {
			wantLists(t, d, []api.Ty{a}, a, a, glat.Always)
		}
	}
}

// wantLists holds Joins and Meets against what is wanted.
func wantLists(t *testing.T, d []api.Bind, l []api.Ty, join, meet api.Ty, exists int) {
	t.Helper()
	before := fmt.Sprintf("%q", []any{d, l})
	for range 2 { // what a call answers does not depend on the ones before it
		if got := glat.Joins(d, l); !ty.Same(got, join) {
			t.Errorf("Joins(%s) = %s", short(d, l), short(got))
		}
		if got, how := glat.Meets(d, l); !ty.Same(got, meet) || how != exists {
			t.Errorf("Meets(%s) = %s, %d", short(d, l), short(got), how)
		}
	}
	if fmt.Sprintf("%q", []any{d, l}) != before {
		t.Errorf("the arguments are changed: %s", short(d, l))
	}
}

// slowLists are Joins and Meets of valid types, by the document's words.
func slowLists(d []api.Bind, l []api.Ty) (join, meet api.Ty, exists int) {
	join, meet, exists = l[0], l[0], glat.Always
	for _, a := range l[1:] {
		how := 0
		join = slowJoin(d, join, a)
		if exists != glat.Never {
			meet, how = slowMeet(d, meet, a)
			exists = min(exists, how)
		}
	}
	return join, meet, exists
}

// P13.3: all lists of up to four types of a choice.
func TestSmallLists(t *testing.T) {
	d := binds(t, "X: {a: Int}; Y: ?")
	l := types(t, "Int; ?; Top; X; Y; W; {a: ?}; {a: Int, b: Int}; ? -> Int; Int -> ?")
	lists := [][]api.Ty{nil}
	for range 4 {
		var next [][]api.Ty
		for _, x := range lists {
			for _, a := range l {
				y := append(slices.Clone(x), a)
				next = append(next, y)
				join, meet, exists := slowLists(d, y)
				wantLists(t, d, y, join, meet, exists)
			}
		}
		lists = next
	}
}

// layers is two types with so many layers around them, of all sorts by turns; in one sort joins and meets change sides.
type layers struct {
	a, b, join, meet api.Ty
	exists           int
}

// within puts the layers around; in both types, they have different parts.
func (c layers) within(n int) layers {
	left, right, some, all := rec("a", unknown), rec("b", integer), empty, rec("a b", unknown, integer)
	for i := range n {
		next := layers{exists: c.exists}
		switch i % 4 {
		case 0:
			next.a, next.b, next.join, next.meet = fun(left, c.a), fun(right, c.b), fun(all, c.join), fun(some, c.meet)
		case 1:
			next.a, next.b, next.join, next.meet = rec("a b", c.a, left), rec("a b", c.b, right), rec("a b", c.join, some), rec("a b", c.meet, all)
		case 2:
			next = layers{fun(c.a, left), fun(c.b, right), top, fun(c.join, all), glat.Always}
			if c.exists == glat.Maybe {
				next.join = unknown
			} else if c.exists == glat.Always {
				next.join = fun(c.meet, some)
			}
		case 3:
			next.a, next.b, next.join, next.meet = rec("a b", left, c.a), rec("a b c", right, c.b, str), rec("a b", some, c.join), rec("a b c", all, c.meet, str)
		}
		if next.exists == glat.Never {
			next.meet = none
		}
		c = next
	}
	return c
}

// Types that are nested very deeply, with what decides at the bottom.
func TestDeep(t *testing.T) {
	d := binds(t, "X: Int; Y: ?")
	x, y := variable("X"), variable("Y")
	for _, n := range []int{0, 1, 2, 3, 4, 5, 6, 7, 8, 9, 10, 11, 1<<16 - 8} {
		for _, c := range []layers{
			{x, integer, integer, x, glat.Always}, {integer, top, top, integer, glat.Always}, {x, boolean, top, none, glat.Never},
			{y, integer, unknown, unknown, glat.Maybe}, {unknown, str, unknown, unknown, glat.Maybe}, {unknown, top, top, unknown, glat.Always},
		} {
			w := c.within(n)
			wantBoth(t, d, w.a, w.b, w.join, w.meet, w.exists)
		}
		low := layers{a: none, b: none}.within(n).a
		wantBoth(t, d, low, low, none, none, glat.Never)
		wantBoth(t, d, low, top, none, none, glat.Never)
	}
}

// A bound that is nested very deeply.
func TestDeepBound(t *testing.T) {
	const n = 1<<16 - 8
	c := layers{integer, integer, integer, integer, glat.Always}.within(n)
	open := layers{unknown, integer, unknown, unknown, glat.Maybe}.within(n)
	z := variable("Z")
	d := []api.Bind{bind("Z", c.a)}
	wantBoth(t, d, z, z, z, z, glat.Always)
	wantBoth(t, d, z, c.b, c.join, none, glat.Never) // neither has all the fields of the other one
	wantBoth(t, d, rec("a", z), rec("b", open.a), empty, rec("a b", z, open.a), glat.Always)
	// In the types alone there is a ? in each layer; here there is none but the innermost.
	low, high, maybe := integer, top, unknown
	for range n {
		low, high, maybe = fun(str, low), fun(str, high), fun(str, maybe)
	}
	d = []api.Bind{bind("Z", low), bind("Y", maybe)}
	wantBoth(t, d, z, low, low, z, glat.Always)
	wantBoth(t, d, z, high, high, z, glat.Always)
	wantBoth(t, d, z, maybe, maybe, unknown, glat.Maybe)
	wantBoth(t, d, variable("Y"), low, maybe, unknown, glat.Maybe)
	wantBoth(t, d, variable("Y"), high, high, unknown, glat.Maybe)
	wantBoth(t, d, variable("Y"), z, maybe, none, glat.Never)
	wantBoth(t, d[:1], z, fun(low, low), top, none, glat.Never)
}

// wide is a record of that many fields, from a label on that its number tells.
func wide(from, n int, a api.Ty) api.Ty {
	w := api.Ty{K: api.TRec}
	for i := range n {
		w.Labels = append(w.Labels, fmt.Sprintf("v%07x", from+i))
		w.Args = append(w.Args, a)
	}
	return w
}

// Records of many fields, as many variables and bindings, and long lists.
func TestWide(t *testing.T) {
	const n = 1 << 12
	w := wide(0, n, integer)
	wantBoth(t, nil, w, w, w, w, glat.Always)
	wantBoth(t, nil, w, wide(n/4, n, unknown), wide(n/4, n-n/4, unknown), joined(wide(0, n/4, integer), wide(n/4, n, unknown)), glat.Maybe)
	wantBoth(t, nil, w, wide(n, n, unknown), empty, joined(w, wide(n, n, unknown)), glat.Always)
	wantBoth(t, nil, w, wide(n-1, 1, top), wide(n-1, 1, top), w, glat.Always)
	wantBoth(t, nil, w, wide(n-1, 1, boolean), wide(n-1, 1, top), none, glat.Never)
	wantBoth(t, nil, wide(0, n, unknown), joined(wide(0, n-1, integer), wide(n-1, 1, top)), joined(wide(0, n-1, unknown), wide(n-1, 1, top)), wide(0, n, unknown), glat.Maybe)
	var d []api.Bind
	vars := wide(0, n, top)
	for i := range n {
		s := fmt.Sprintf("V%07x", i)
		d = append(d, bind(s, integer))
		vars.Args[n-1-i] = variable(s)
	}
	wantBoth(t, d, w, vars, w, vars, glat.Always)
	wantBoth(t, d[:n-1], w, vars, joined(wide(0, 1, top), wide(1, n-1, integer)), none, glat.Never)
	open := vars
	open.Args = append([]api.Ty{unknown}, vars.Args[1:]...)
	wantBoth(t, append(d[:n-1:n-1], bind("Vfff", integer), bind(d[n-1].Name, unknown)), w, vars, joined(wide(0, 1, unknown), wide(1, n-1, integer)), open, glat.Maybe)
	for _, b := range []api.Bind{bind("V0000000", integer), bind("X", variable("X")), bind("x", integer)} {
		wantBoth(t, append(d[:n:n], b), w, vars, none, none, glat.Never)
		wantLists(t, append(d[:n:n], b), []api.Ty{integer, integer}, none, none, glat.Never)
	}
	// The bounds are validated once for a whole list.
	l := slices.Repeat([]api.Ty{integer}, n)
	wantLists(t, d, l, integer, integer, glat.Always)
	for i := range l {
		l[i] = wide(i*7%n, 1, integer)
	}
	wantLists(t, d, l, empty, w, glat.Always)
	wantLists(t, d, append(l, vars), empty, vars, glat.Always)
}

// joined is the record of the fields of both records, of which the second one has the later ones.
func joined(a, b api.Ty) api.Ty {
	return api.Ty{K: api.TRec, Labels: append(slices.Clone(a.Labels), b.Labels...), Args: append(slices.Clone(a.Args), b.Args...)}
}

// wrong is types that are not valid.
func wrong() []api.Ty {
	l := []api.Ty{
		{}, {K: -1}, {K: 10}, {K: math.MaxInt}, {K: math.MinInt}, seal(-1), seal(1<<30 + 1), seal(math.MinInt), seal(math.MaxInt), {K: api.TSeal, Name: "X"},
		variable("x"), variable(""), variable("Int"), variable("Abcdefghi"), {K: api.TVar, Name: "X", N: 1}, {K: api.TVar, Name: "X", Args: []api.Ty{integer}},
		{K: api.TFun}, {K: api.TFun, Args: []api.Ty{top}}, {K: api.TFun, Args: []api.Ty{top, top, top}}, {K: api.TFun, N: 1, Args: []api.Ty{top, top}},
		rec("b a", top, top), rec("a a", top, top), rec("a"), rec("a b", top), rec("a", top, top), rec("X", top), rec("in", top), rec("abcdefghi", top),
		{K: api.TRec, Name: "a"}, {K: api.TRec, N: 3}, {K: api.TRec, Labels: []string{""}, Args: []api.Ty{top}},
	}
	for k := api.TInt; k <= api.TDyn; k++ {
		l = append(l, api.Ty{K: k, N: 1}, api.Ty{K: k, Name: "X"}, api.Ty{K: k, Labels: []string{"a"}}, api.Ty{K: k, Args: []api.Ty{top}})
	}
	return l
}

// around is that type, and types that have it in some place.
func around(a api.Ty) []api.Ty {
	return []api.Ty{a, fun(a, top), fun(top, a), rec("a", a), rec("a b c", top, a, unknown), rec("a b c", top, str, a),
		fun(rec("x", fun(boolean, a)), rec("y", integer)), layers{a: a}.within(9).a}
}

// P13.1 to P13.3: of a type that is not valid, on either side and at any place, there is nothing: not beside Top or ?, nor
// beside itself, nor where no rule looks at it; and so it is at any place of a list, if it is not alone there.
func TestWrong(t *testing.T) {
	for _, d := range [][]api.Bind{nil, binds(t, "X: Int; Y: {a: ?}")} {
		for _, x := range wrong() {
			for _, a := range around(x) {
				want(t, d, a, a, none, none, glat.Never)
				wantBoth(t, d, rec("a b", integer, a), rec("a", integer), none, none, glat.Never)
				wantBoth(t, d, rec("a b", integer, a), rec("a", boolean), none, none, glat.Never)
				wantBoth(t, d, rec("a b", a, integer), empty, none, none, glat.Never)
				wantBoth(t, d, fun(a, integer), fun(boolean, boolean), none, none, glat.Never)
				wantBoth(t, d, fun(integer, a), fun(boolean, integer), none, none, glat.Never)
				for _, b := range types(t, "Int; Top; ?; X; Y; Q0; {}; Int -> ?; {a: Top}; Y -> Top") {
					wantBoth(t, d, a, b, none, none, glat.Never)
					for _, l := range [][]api.Ty{{a, b}, {b, a}, {b, b, a, b}, {a, b, b}, {top, top, a}, {top, integer, boolean, a}, {unknown, a, unknown}} {
						wantLists(t, d, l, none, none, glat.Never)
					}
				}
				wantLists(t, d, []api.Ty{a}, a, a, glat.Always)
			}
		}
	}
}

// P13.1 to P13.3: with bounds that are not valid there is nothing, whether or not the types have to do with them.
func TestWrongBounds(t *testing.T) {
	var bad [][]api.Bind
	for _, x := range append(wrong(), types(t, "X; Y; Z; Q0; Q7")...) {
		for _, a := range around(x) {
			bad = append(bad, []api.Bind{bind("X", a)}, []api.Bind{bind("X", integer), bind("Y", a)}, []api.Bind{bind("X", a), bind("Y", integer)})
		}
	}
	for _, s := range []string{"", "x", "Int", "Top", "Abcdefghi", "X ", "X_", "\xff"} {
		bad = append(bad, []api.Bind{bind(s, integer)}, []api.Bind{bind("X", integer), bind(s, integer)}, []api.Bind{bind(s, integer), bind("X", integer)})
	}
	bad = append(bad, binds(t, "X: Int; X: Int"), binds(t, "X: Int; Y: Int; X: Top"), binds(t, "Y: Int; Y: ?; X: Int"))
	for _, d := range bad {
		for _, x := range [][2]string{{"Int", "Int"}, {"Int", "Top"}, {"Top", "Top"}, {"?", "?"}, {"? ", "Top"}, {"Int", "Bool"}, {"X", "Int"}, {"X", "X"}, {"X", "Top"}, {"{}", "{}"}, {"{}", "{a: Int}"}, {"Int -> Int", "Bool -> Int"}} {
			a, b := parse(t, x[0]), parse(t, x[1])
			wantBoth(t, d, a, b, none, none, glat.Never)
			wantLists(t, d, []api.Ty{a, b}, none, none, glat.Never)
			wantLists(t, d, []api.Ty{a, b, a}, none, none, glat.Never)
		}
	}
}

// P3: empty lists are as good as none.
func TestBlank(t *testing.T) {
	blank := func(k int) api.Ty { return api.Ty{K: k, Labels: []string{}, Args: []api.Ty{}} }
	for _, d := range [][]api.Bind{nil, {}} {
		for k := api.TInt; k <= api.TStr; k++ {
			wantBoth(t, d, blank(k), api.Ty{K: k}, api.Ty{K: k}, api.Ty{K: k}, glat.Always)
			wantBoth(t, d, blank(k), blank(api.TTop), top, api.Ty{K: k}, glat.Always)
			wantBoth(t, d, blank(k), blank(api.TDyn), unknown, unknown, glat.Maybe)
		}
		wantBoth(t, d, blank(api.TRec), rec("a", integer), empty, rec("a", integer), glat.Always)
		wantBoth(t, d, blank(api.TRec), empty, empty, empty, glat.Always)
		wantBoth(t, d, blank(api.TInt), blank(api.TBool), top, none, glat.Never)
		wantLists(t, d, []api.Ty{blank(api.TInt), integer}, integer, integer, glat.Always)
	}
	x := variable("X")
	wantBoth(t, []api.Bind{bind("X", blank(api.TRec))}, x, empty, empty, x, glat.Always)
	wantBoth(t, []api.Bind{bind("X", blank(api.TDyn))}, x, unknown, unknown, unknown, glat.Maybe)
	wantBoth(t, binds(t, "X: Int"), api.Ty{K: api.TVar, Name: "X", Labels: []string{}, Args: []api.Ty{}}, integer, integer, x, glat.Always)
}

// P4: what lies in memory behind a list that is handed in stays as it is.
func TestSpare(t *testing.T) {
	labels := []string{"a", "b", "z1", "z2", "z3"}
	args := []api.Ty{fun(integer, top), integer, str, str, str}
	d := append(binds(t, "X: Int; Y: ?"), bind("Z", str))
	a := api.Ty{K: api.TRec, Labels: labels[:2], Args: args[:2]}
	for _, b := range types(t, "{a: Int -> Int, b: ?, c: Int}; {a0: Int}; {a: Bool -> Top, c: X}; {c: Int, d: Y}; {b: X}; {}; {a: {}}; {z9: Int}") {
		wantSlow(t, d[:2], a, b)
		wantSlow(t, d[:2], fun(a, b), fun(b, a))
		l := []api.Ty{a, b, str}
		join, meet, exists := slowLists(d[:2], l[:2])
		wantLists(t, d[:2], l[:2], join, meet, exists)
		if !ty.Same(l[2], str) {
			t.Error("something is written behind a list")
		}
	}
	if !slices.Equal(labels, []string{"a", "b", "z1", "z2", "z3"}) || !slices.EqualFunc(args[2:], []api.Ty{str, str, str}, ty.Same) || !ty.Same(d[2].Type, str) {
		t.Error("something is written behind a list")
	}
}

// small is the types of at most that depth, of leaves from a choice; records have the fields a and b.
func small(depth int, leaves []api.Ty) []api.Ty {
	if depth == 1 {
		return append([]api.Ty{empty}, leaves...)
	}
	parts := small(depth-1, leaves)
	l := slices.Clone(parts[:len(leaves)+1])
	for _, a := range parts {
		l = append(l, rec("a", a), rec("b", a))
		for _, b := range parts {
			l = append(l, fun(a, b), rec("a b", a, b))
		}
	}
	return l
}

// P13.1, P13.2: all pairs of small types, with several bounds, against the definitions.
func TestSmall(t *testing.T) {
	flat := small(2, types(t, "Int; Top; ?; Q0; X; Y"))
	for _, s := range []string{"", "X: Int", "X: Top; Y: ?", "X: {a: Int}; Y: {a: Int, b: ?}", "X: Top -> Int; Y: {a: Top}", "Y: ? -> {}; X: Int -> Top"} {
		holdSmall(t, binds(t, s), flat)
	}
	holdSmall(t, binds(t, "X: {a: ?} -> {}"), small(3, types(t, "X")))
	holdSmall(t, nil, small(3, types(t, "?")))
}

func holdSmall(t *testing.T, d []api.Bind, l []api.Ty) {
	var count [3]int
	for i, a := range l {
		for _, b := range l[:i+1] {
			wantSlow(t, d, a, b)
			_, exists := glat.Meet(d, a, b)
			count[exists]++
		}
	}
	if count[glat.Never] < len(l) || count[glat.Maybe] == 0 || count[glat.Always] < len(l) {
		t.Errorf("of %d types, %v have no meet, maybe one, and always one", len(l), count)
	}
}

// P13.4: for static types and bounds the results are those of lat.
func TestStatic(t *testing.T) {
	flat := small(2, types(t, "Int; Bool; Top; Q0; X; Y"))
	for _, s := range []string{"", "X: Int", "X: Top; Y: Bool", "X: {a: Int}; Y: {a: Int, b: Top}", "X: Top -> Int; Y: {a: Top}", "Y: Int -> {}; X: Int -> Top"} {
		holdStatic(t, binds(t, s), flat)
	}
	holdStatic(t, binds(t, "X: {a: {}} -> {}"), small(3, types(t, "X")))
	holdStatic(t, nil, small(3, types(t, "Int")))
}

func holdStatic(t *testing.T, d []api.Bind, l []api.Ty) {
	for _, a := range l {
		for _, b := range l {
			meet, ok := lat.Meet(d, a, b)
			exists := glat.Never
			if ok {
				exists = glat.Always
			}
			want(t, d, a, b, lat.Join(d, a, b), meet, exists)
		}
	}
}

// product has each way to have one part out of each choice.
func product(choices [][]api.Ty) [][]api.Ty {
	l := [][]api.Ty{nil}
	for _, choice := range choices {
		var next [][]api.Ty
		for _, parts := range l {
			for _, a := range choice {
				next = append(next, append(slices.Clone(parts), a))
			}
		}
		l = next
	}
	return l
}

// remade is that type with each way to have other parts in it.
func remade(a api.Ty, other func(part api.Ty) []api.Ty) []api.Ty {
	var choices [][]api.Ty
	for _, x := range a.Args {
		choices = append(choices, other(x))
	}
	var l []api.Ty
	for _, args := range product(choices) {
		b := a
		b.Args = args
		l = append(l, b)
	}
	return l
}

// filled is all types of at most that depth with a static one, of leaves from a choice, in place of each ?.
func filled(a api.Ty, depth int, leaves []api.Ty) []api.Ty {
	if a.K == api.TDyn {
		return small(depth, leaves)
	}
	return remade(a, func(x api.Ty) []api.Ty { return filled(x, depth-1, leaves) })
}

// weaker is all types that are less precise than that one, itself among them.
func weaker(a api.Ty) []api.Ty {
	l := remade(a, weaker)
	if a.K != api.TDyn {
		l = append(l, unknown)
	}
	return l
}

// weakerBounds is all bounds that are less precise than those.
func weakerBounds(d []api.Bind) [][]api.Bind {
	var choices [][]api.Ty
	for _, b := range d {
		choices = append(choices, weaker(b.Type))
	}
	var l [][]api.Bind
	for _, args := range product(choices) {
		e := slices.Clone(d)
		for i, a := range args {
			e[i].Type = a
		}
		l = append(l, e)
	}
	return l
}

// holdFilled holds the results for two types against those of lat for two static ones that are as precise.
func holdFilled(t *testing.T, d []api.Bind, a, b, x, y api.Ty) {
	t.Helper()
	join := glat.Join(d, a, b)
	meet, exists := glat.Meet(d, a, b)
	least, ok := lat.Meet(d, x, y)
	if !prec.Less(lat.Join(d, x, y), join) || ok && exists == glat.Never || !ok && exists == glat.Always || ok && !prec.Less(least, meet) {
		t.Errorf("%s: %s & %s, %d; and for %s", short(d, a, b), short(join), short(meet), exists, short(x, y))
	}
}

// P13.4: for static bounds, against all static types of which small ones could be made.
func TestFilled(t *testing.T) {
	leaves := types(t, "Int; Top; X")
	l := small(2, append(types(t, "?"), leaves...))
	for _, s := range []string{"", "X: Int", "X: {a: Int}", "X: Top -> Int"} {
		d := binds(t, s)
		for _, a := range l {
			for _, b := range l {
				for _, x := range filled(a, 2, leaves) {
					for _, y := range filled(b, 2, leaves) {
						holdFilled(t, d, a, b, x, y)
					}
				}
			}
		}
	}
}

// holdWeaker holds the results for two types against those for two less precise ones, with bounds that are so, too.
func holdWeaker(t *testing.T, d, e []api.Bind, a, b, x, y api.Ty) {
	t.Helper()
	join, weak := glat.Join(d, a, b), glat.Join(e, x, y)
	meet, exists := glat.Meet(d, a, b)
	less, how := glat.Meet(e, x, y)
	lost := exists == glat.Always && how == glat.Never
	if !prec.Less(join, weak) || lost || exists != glat.Never && how != glat.Never && !prec.Less(meet, less) {
		t.Errorf("%s: %s & %s, %d; and for %s: %s & %s, %d", short(d, a, b), short(join), short(meet), exists, short(e, x, y), short(weak), short(less), how)
	}
}

// P13.4: less precise types and bounds have less precise results.
func TestWeaker(t *testing.T) {
	l := small(2, types(t, "Int; Top; ?; X; Y"))
	l = append(l, types(t, "Bool; {a: {a: Int}}; {a: {a: X}}; (Int -> Top) -> Int; (Top -> Int) -> Top; (X -> Y) -> X; {a: Y -> X, b: X -> Y}; {a: Int, b: Q0, c: Int}; {c: Top}; Q0; Int -> Int -> Int")...)
	less := make([][]api.Ty, len(l))
	for i, a := range l {
		less[i] = weaker(a)
	}
	for _, s := range []string{"", "X: Int; Y: Int", "X: {a: Int}; Y: ?", "X: Int -> Top; Y: {a: Int}"} {
		d := binds(t, s)
		for _, e := range weakerBounds(d) {
			for i, a := range l {
				for j, b := range l {
					for _, x := range less[i] {
						for _, y := range less[j] {
							holdWeaker(t, d, e, a, b, x, y)
						}
					}
				}
			}
		}
	}
}

// random is a type of at most that depth, of leaves from a choice.
func random(r *rand.Rand, depth int, leaves []api.Ty) api.Ty {
	if depth > 1 && r.Intn(4) > 0 {
		if r.Intn(2) == 0 {
			return fun(random(r, depth-1, leaves), random(r, depth-1, leaves))
		}
		a := empty
		for _, s := range []string{"a", "b", "c1", "d"} {
			if r.Intn(2) == 0 {
				a.Labels, a.Args = append(a.Labels, s), append(a.Args, random(r, depth-1, leaves))
			}
		}
		return a
	}
	return leaves[r.Intn(len(leaves))]
}

// changed is that type with other parts at a few places.
func changed(r *rand.Rand, a api.Ty, leaves []api.Ty) api.Ty {
	if len(a.Args) == 0 || r.Intn(8) == 0 {
		return random(r, 2, leaves)
	}
	a.Labels, a.Args = slices.Clone(a.Labels), slices.Clone(a.Args)
	i := r.Intn(len(a.Args))
	if a.K == api.TRec && r.Intn(3) == 0 {
		a.Labels, a.Args = slices.Delete(a.Labels, i, i+1), slices.Delete(a.Args, i, i+1)
	} else {
		a.Args[i] = changed(r, a.Args[i], leaves)
	}
	return a
}

// weakened is that type with ? in place of some of its nodes.
func weakened(r *rand.Rand, a api.Ty) api.Ty {
	for range r.Intn(4) {
		a, _ = prec.Cut(a, r.Intn(ty.Nodes(a)))
	}
	return a
}

// randomBounds is bounds of some of a few variables.
func randomBounds(r *rand.Rand, closed []api.Ty) []api.Bind {
	var d []api.Bind
	for _, s := range []string{"X", "Y", "Z", "Xx"} {
		if r.Intn(3) > 0 {
			d = append(d, bind(s, random(r, 3, closed)))
		}
	}
	return d
}

// P13.1 to P13.4: random types against the definitions, and less precise ones against them; some are not valid.
func TestRandom(t *testing.T) {
	r := rand.New(rand.NewSource(17))
	closed := types(t, "Int; Bool; Top; {}")
	leaves := append(slices.Clone(closed), types(t, "Q0; Q7; X; Y; Z; Xx; Int; {}")...)
	var count [3]int
	for range 40000 {
		d := randomBounds(r, closed)
		a := random(r, 4, leaves)
		b := a
		for range r.Intn(6) {
			b = changed(r, b, leaves)
		}
		x, y := weakened(r, a), weakened(r, b)
		wantSlow(t, d, x, y)
		holdFilled(t, d, x, y, a, b)
		e := slices.Clone(d)
		for i := range e {
			e[i].Type = weakened(r, e[i].Type)
		}
		u, v := weakened(r, x), weakened(r, y)
		wantSlow(t, e, u, v)
		holdWeaker(t, d, e, x, y, u, v)
		l := []api.Ty{u, x, v, y, b}[r.Intn(4):]
		r.Shuffle(len(l), func(i, j int) { l[i], l[j] = l[j], l[i] })
		join, meet, exists := slowLists(e, l)
		wantLists(t, e, l, join, meet, exists)
		_, exists = glat.Meet(d, x, y)
		count[exists]++
	}
	if slices.Min(count[:]) < 3000 {
		t.Errorf("of the random ones %v have no meet, maybe one, and always one", count)
	}
}

// P13.1, P13.2, P1: random types, of which some are not valid.
func TestRandomWrong(t *testing.T) {
	r := rand.New(rand.NewSource(18))
	closed := types(t, "Int; ?; Top; {}")
	leaves := append(slices.Clone(closed), types(t, "Q0; X; Y; Xx")...)
	bad := 0
	for range 20000 {
		d := randomBounds(r, closed)
		if len(d) > 0 && r.Intn(8) == 0 {
			odd := []api.Bind{bind("x", integer), bind("", top), d[0], bind("V", leaves[r.Intn(len(leaves))]), bind("V", random(r, 2, wrong()))}
			d = slices.Insert(d, r.Intn(len(d)+1), odd[r.Intn(len(odd))])
		}
		a, b := random(r, 3, leaves), random(r, 3, leaves)
		if r.Intn(8) == 0 {
			a = changed(r, a, wrong())
		}
		if r.Intn(8) == 0 {
			b = changed(r, b, wrong())
		}
		if bounds.Right(d) && ty.Right(a) && ty.Right(b) {
			wantSlow(t, d, a, b)
		} else {
			wantBoth(t, d, a, b, none, none, glat.Never)
			bad++
		}
	}
	if bad < 2000 || bad > 15000 {
		t.Errorf("%d of the random ones are not valid", bad)
	}
}
