package lat_test

import (
	"fmt"
	"maps"
	"math"
	"math/rand"
	"regexp"
	"slices"
	"strings"
	"testing"

	"limbeck/api"
	"limbeck/lat"
	"limbeck/sub"
	"limbeck/tyread"
)

var (
	integer = api.Ty{K: api.TInt}
	boolean = api.Ty{K: api.TBool}
	str     = api.Ty{K: api.TStr}
	top     = api.Ty{K: api.TTop}
	unknown = api.Ty{K: api.TDyn}
	empty   = api.Ty{K: api.TRec}
)

func variable(s string) api.Ty { return api.Ty{K: api.TVar, Name: s} }

func seal(n int) api.Ty { return api.Ty{K: api.TSeal, N: n} }

func fun(a, b api.Ty) api.Ty { return api.Ty{K: api.TFun, Args: []api.Ty{a, b}} }

func rec(labels string, args ...api.Ty) api.Ty {
	return api.Ty{K: api.TRec, Labels: strings.Fields(labels), Args: args}
}

func bind(s string, a api.Ty) api.Bind { return api.Bind{Name: s, Type: a} }

// parse is the type of a text, in which Q7 stands for the seal 7.
func parse(t *testing.T, s string) api.Ty {
	t.Helper()
	a, err := tyread.Parse(s)
	if err != nil {
		t.Fatalf("%q is no type", s)
	}
	var walk func(a api.Ty) api.Ty
	walk = func(a api.Ty) api.Ty {
		n := 0
		if _, err := fmt.Sscanf(a.Name, "Q%d", &n); err == nil {
			return seal(n)
		}
		for i := range a.Args { // this type is nobody else's yet
			a.Args[i] = walk(a.Args[i])
		}
		return a
	}
	return walk(a)
}

// types is the types that a text gives, as in "Int; X -> X".
func types(t *testing.T, s string) []api.Ty {
	t.Helper()
	var l []api.Ty
	for _, x := range strings.Split(s, ";") {
		l = append(l, parse(t, x))
	}
	return l
}

// binds is the bindings that a text gives, as in "X: Int; Y: X -> X".
func binds(t *testing.T, s string) []api.Bind {
	t.Helper()
	var d []api.Bind
	for _, x := range strings.Split(s, ";") {
		if name, text, ok := strings.Cut(x, ":"); ok {
			d = append(d, bind(strings.TrimSpace(name), parse(t, text)))
		}
	}
	return d
}

// list has the nodes of a type in order, each one before those below it.
func list(a api.Ty) []api.Ty {
	var out []api.Ty
	for rest := []api.Ty{a}; len(rest) > 0; {
		x := rest[len(rest)-1]
		rest = rest[:len(rest)-1]
		out = append(out, x)
		for i := range x.Args {
			rest = append(rest, x.Args[len(x.Args)-1-i])
		}
	}
	return out
}

// exact is a text that no other type has.
func exact(a api.Ty) string {
	var s strings.Builder
	for _, x := range list(a) {
		fmt.Fprintf(&s, "%d %d %q %q %d;", x.K, x.N, x.Name, x.Labels, len(x.Args))
	}
	return s.String()
}

// alike reports whether exact of both types is the same; it is faster, and goes no further than the first difference.
func alike(a, b api.Ty) bool {
	for rest := [][2]api.Ty{{a, b}}; len(rest) > 0; {
		x, y := rest[len(rest)-1][0], rest[len(rest)-1][1]
		rest = rest[:len(rest)-1]
		if x.K != y.K || x.N != y.N || x.Name != y.Name || !slices.Equal(x.Labels, y.Labels) || len(x.Args) != len(y.Args) {
			return false
		}
		for i := range x.Args {
			rest = append(rest, [2]api.Ty{x.Args[i], y.Args[i]})
		}
	}
	return true
}

// exactly is a text that no other bindings and types have.
func exactly(d []api.Bind, l ...api.Ty) string {
	var s strings.Builder
	for _, b := range d {
		fmt.Fprintf(&s, "%q=%s|", b.Name, exact(b.Type))
	}
	for _, a := range l {
		s.WriteString(exact(a) + "|")
	}
	return s.String()
}

// short writes a value for a message: a type may be great.
func short(x any) string {
	s := fmt.Sprint(x)
	return s[:min(len(s), 300)]
}

var (
	bindable = regexp.MustCompile(`^[A-Z][a-zA-Z0-9]{0,7}$`)
	typeWord = regexp.MustCompile(`^(Int|Bool|String|Top)$`)
	plain    = regexp.MustCompile(`^[a-z][a-z0-9]{0,7}$`)
	reserved = regexp.MustCompile(`^(let|in|if|then|else|fn|call|def|true|false)$`)
)

func slowVar(s string) bool { return bindable.MatchString(s) && !typeWord.MatchString(s) }

// slowType is the document's definition of a valid type, node by node; with open, variables and seals may occur.
func slowType(a api.Ty, open bool) bool {
	for _, x := range list(a) {
		for i, s := range x.Labels {
			if !plain.MatchString(s) || reserved.MatchString(s) || i > 0 && x.Labels[i-1] >= s {
				return false
			}
		}
		leaf := len(x.Labels) == 0 && len(x.Args) == 0
		switch {
		case x.K >= 1 && x.K <= 5 && leaf && x.N == 0 && x.Name == "":
		case open && x.K == 6 && leaf && x.N == 0 && slowVar(x.Name):
		case open && x.K == 9 && leaf && x.N >= 0 && x.N <= 1<<30 && x.Name == "":
		case x.K == 7 && len(x.Labels) == 0 && len(x.Args) == 2 && x.N == 0 && x.Name == "":
		case x.K == 8 && len(x.Labels) == len(x.Args) && x.N == 0 && x.Name == "":
		default:
			return false
		}
	}
	return true
}

func slowRight(d []api.Bind) bool {
	var names []string
	for _, b := range d {
		if !slowVar(b.Name) || !slowType(b.Type, false) {
			return false
		}
		names = append(names, b.Name)
	}
	slices.Sort(names)
	return len(slices.Compact(names)) == len(d)
}

// slowBounds has the bound of each variable.
func slowBounds(d []api.Bind) map[string]api.Ty {
	m := map[string]api.Ty{}
	for _, b := range d {
		m[b.Name] = b.Type
	}
	return m
}

// slowFields has the type of each label.
func slowFields(a api.Ty) map[string]api.Ty {
	m := map[string]api.Ty{}
	for i, s := range a.Labels {
		m[s] = a.Args[i]
	}
	return m
}

// slowRecord is the record of these fields.
func slowRecord(fields map[string]api.Ty) api.Ty {
	a := api.Ty{K: 8}
	for _, s := range slices.Sorted(maps.Keys(fields)) {
		a.Labels, a.Args = append(a.Labels, s), append(a.Args, fields[s])
	}
	return a
}

// slowUnder is the document's definition of a subtype; it keeps the pairs that are still to be held against each other,
// lower before upper.
func slowUnder(bound map[string]api.Ty, a, b api.Ty) bool {
	for rest := [][2]api.Ty{{a, b}}; len(rest) > 0; {
		low, high := rest[0][0], rest[0][1]
		rest = rest[1:]
		up, bounded := bound[low.Name]
		switch {
		case high.K == 4:
		case low.K == 6 && high.K == 6 && low.Name == high.Name:
		case low.K == 6 && !bounded:
			return false
		case low.K == 6:
			rest = append(rest, [2]api.Ty{up, high})
		case low.K == 7 && high.K == 7:
			rest = append(rest, [2]api.Ty{high.Args[0], low.Args[0]}, [2]api.Ty{low.Args[1], high.Args[1]})
		case low.K == 8 && high.K == 8:
			fields := slowFields(low)
			for s, x := range slowFields(high) {
				y, ok := fields[s]
				if !ok {
					return false
				}
				rest = append(rest, [2]api.Ty{y, x})
			}
		case low.K != high.K || low.N != high.N || low.Name != high.Name || low.K >= 7 && low.K <= 8:
			return false
		}
	}
	return true
}

// slowJoin is the document's definition, rule by rule, for arguments that are valid.
func slowJoin(bound map[string]api.Ty, a, b api.Ty) api.Ty {
	up := func(x api.Ty) api.Ty {
		if y, ok := bound[x.Name]; ok {
			return y
		}
		return top
	}
	switch {
	case alike(a, b):
		return a
	case a.K == 4 || b.K == 4:
		return top
	case a.K == 6:
		return slowJoin(bound, up(a), b)
	case b.K == 6:
		return slowJoin(bound, a, up(b))
	case a.K == 7 && b.K == 7:
		takes, ok := slowMeet(bound, a.Args[0], b.Args[0])
		if !ok {
			return top
		}
		return fun(takes, slowJoin(bound, a.Args[1], b.Args[1]))
	case a.K == 8 && b.K == 8:
		fields := map[string]api.Ty{}
		others := slowFields(b)
		for s, x := range slowFields(a) {
			if y, ok := others[s]; ok {
				fields[s] = slowJoin(bound, x, y)
			}
		}
		return slowRecord(fields)
	}
	return top
}

// slowMeet is the document's definition, rule by rule, for arguments that are valid.
func slowMeet(bound map[string]api.Ty, a, b api.Ty) (api.Ty, bool) {
	switch {
	case alike(a, b):
		return a, true
	case a.K == 4:
		return b, true
	case b.K == 4:
		return a, true
	case (a.K == 6 || b.K == 6) && slowUnder(bound, a, b):
		return a, true
	case (a.K == 6 || b.K == 6) && slowUnder(bound, b, a):
		return b, true
	case a.K == 7 && b.K == 7:
		gives, ok := slowMeet(bound, a.Args[1], b.Args[1])
		if !ok {
			return api.Ty{}, false
		}
		return fun(slowJoin(bound, a.Args[0], b.Args[0]), gives), true
	case a.K == 8 && b.K == 8:
		fields := slowFields(a)
		for s, y := range slowFields(b) {
			if x, ok := fields[s]; ok {
				if y, ok = slowMeet(bound, x, y); !ok {
					return api.Ty{}, false
				}
			}
			fields[s] = y
		}
		return slowRecord(fields), true
	}
	return api.Ty{}, false
}

// want holds both calls, with the types either way round, against what is wanted; where there is no meet, the zero type
// is.
func want(t *testing.T, d []api.Bind, a, b, join, meet api.Ty, ok bool) {
	t.Helper()
	before := exactly(d, a, b)
	for range 2 { // what a call answers does not depend on the ones before it
		for _, x := range [][2]api.Ty{{a, b}, {b, a}} {
			if got := lat.Join(d, x[0], x[1]); !alike(got, join) {
				t.Errorf("Join(%s, %s, %s) = %s", short(d), short(x[0]), short(x[1]), short(got))
			}
			if got, is := lat.Meet(d, x[0], x[1]); !alike(got, meet) || is != ok {
				t.Errorf("Meet(%s, %s, %s) = %s, %v", short(d), short(x[0]), short(x[1]), short(got), is)
			}
		}
	}
	if exactly(d, a, b) != before {
		t.Errorf("the arguments are changed: %s, %s, %s", short(d), short(a), short(b))
	}
}

// wantSlow holds both calls against the definition, and against what the order of the types says of them.
func wantSlow(t *testing.T, d []api.Bind, a, b api.Ty) (api.Ty, api.Ty, bool) {
	t.Helper()
	bound := slowBounds(d)
	join := slowJoin(bound, a, b)
	meet, ok := slowMeet(bound, a, b)
	want(t, d, a, b, join, meet, ok)
	if !sub.Is(d, a, join) || !sub.Is(d, b, join) || ok && (!sub.Is(d, meet, a) || !sub.Is(d, meet, b)) {
		t.Errorf("%s and %s, with %s: %s is not above both, or %s not below both", short(a), short(b), short(d), short(join), short(meet))
	}
	if below := sub.Is(d, a, b); below != alike(join, b) || below != (ok && alike(meet, a)) {
		t.Errorf("%s and %s, with %s: %v, %s and %s", short(a), short(b), short(d), below, short(join), short(meet))
	}
	return join, meet, ok
}

// rows holds each row of a text, as in "Int | Bool = Top & none": two types, their join, and their meet.
func rows(t *testing.T, d []api.Bind, text string) {
	t.Helper()
	for _, row := range strings.Split(text, ";") {
		given, results, ok := strings.Cut(row, "=")
		left, right, ok2 := strings.Cut(given, "|")
		join, meet, ok3 := strings.Cut(results, "&")
		if !ok || !ok2 || !ok3 {
			t.Fatalf("%q is no row", row)
		}
		low, is := api.Ty{}, strings.TrimSpace(meet) != "none"
		if is {
			low = parse(t, meet)
		}
		want(t, d, parse(t, left), parse(t, right), parse(t, join), low, is)
		wantSlow(t, d, parse(t, left), parse(t, right))
	}
}

// P12.1, P12.2: the document's examples.
func TestExamples(t *testing.T) {
	rows(t, nil, "Int | Bool = Top & none; {a: Int, b: Bool} | {b: Bool, c: Int} = {b: Bool} & {a: Int, b: Bool, c: Int}; Int -> Int | Bool -> Int = Top & Top -> Int; {a: Int} | {a: Bool} = {a: Top} & none")
	rows(t, binds(t, "X: {a: Int, b: Bool}; Y: {a: Int}"), "X | Y = {a: Int} & none; X | {a: Int} = {a: Int} & X")
}

// P12.1, P12.2: a type and itself, of each kind, whatever it has in it.
func TestSame(t *testing.T) {
	l := types(t, "Int; Bool; String; Top; ?; X; Y; Z; Q0; Q7; {}; {a: Int}; {a: ?, b: X}; Int -> Int; ? -> ?; X -> Y; (X -> Q1) -> {a: Z, b: {c: ?}}; {a: X -> X, c: Top}; Int -> Bool -> X")
	for _, d := range [][]api.Bind{nil, {}, binds(t, "X: Int; Y: {a: ?}"), binds(t, "Z: Top; X: ? -> Int; Y: ?")} {
		for _, a := range append(l, seal(1<<30), variable("Abcdefgh")) {
			want(t, d, a, a, a, a, true)
			wantSlow(t, d, a, a)
			want(t, d, fun(a, a), fun(a, a), fun(a, a), fun(a, a), true)
			want(t, d, rec("a b", a, a), rec("a b", a, a), rec("a b", a, a), rec("a b", a, a), true)
		}
	}
}

// P12.1, P12.2: Top is the join with each type; the meet with it is that type, also of a variable.
func TestTop(t *testing.T) {
	for _, d := range [][]api.Bind{nil, binds(t, "X: Int; Y: ?; Z: Top")} {
		for _, a := range append(types(t, "Int; Bool; String; ?; X; Y; Z; V; Q0; Q7; {}; {a: Int}; {a: X}; Int -> Int; ? -> ?; Top -> X; {a: Top}; X -> Y"), seal(1<<30)) {
			want(t, d, a, top, top, a, true)
			want(t, d, fun(top, a), fun(a, top), fun(a, top), fun(top, a), true)
			want(t, d, rec("a b", a, top), rec("a b", top, a), rec("a b", top, top), rec("a b", a, a), true)
			wantSlow(t, d, a, top)
		}
	}
}

// P12.1, P12.2: what has no parts and is not the same has no rule; ? and seals have none of their own.
func TestBare(t *testing.T) {
	l := append(types(t, "Int; Bool; String; ?; Q0; Q1; {}; {a: Int}; Int -> Int; ? -> ?; {a: ?} -> ?"), seal(1<<30), seal(1<<30-1))
	for _, d := range [][]api.Bind{nil, binds(t, "X: Int; Y: ?")} {
		for i, a := range l {
			for j, b := range l {
				if i < 6 && i != j {
					want(t, d, a, b, top, api.Ty{}, false)
					want(t, d, rec("b", a), rec("b", b), rec("b", top), api.Ty{}, false)
					want(t, d, fun(a, top), fun(b, top), top, fun(top, top), true)
					want(t, d, fun(top, a), fun(top, b), fun(top, top), api.Ty{}, false)
				}
				wantSlow(t, d, a, b)
			}
		}
	}
	rows(t, nil, "{} | Int -> Int = Top & none; {a: Int} | ? = Top & none; {a: ?} | {a: Int} = {a: Top} & none; ? -> Int | Int -> ? = Top & none; ? -> ? | ? -> Int = ? -> Top & none; Q1 -> Int | Q2 -> Int = Top & Top -> Int; {a: Q1} | {a: Q1, b: Q2} = {a: Q1} & {a: Q1, b: Q2}")
}

// P12.1: the join of a variable is that of its bound; a variable without one counts as bounded by Top.
func TestVariables(t *testing.T) {
	d := binds(t, "A: Int; B: Int; C: {a: Int, b: Bool}; D: {a: Int}; E: Top; F: ?; G: {a: Int} -> Int; H: ?; M: {a: {a: Int}}; U: {b: Bool, c: Int}; Xx: {}; X1: {a: Top} -> {a: Int}")
	rows(t, d, "A | B = Int & none; A | Int = Int & A; A | Bool = Top & none; A | ? = Top & none; A | E = Top & none; A | W = Top & none; E | E = E & E; E | Int = Top & none; E | F = Top & none; W | W = W & W; W | V = Top & none; W | Int = Top & none; W | {} = Top & none; W | ? = Top & none; W | Q1 = Top & none; W | W -> W = Top & none")
	rows(t, d, "C | D = {a: Int} & none; C | U = {b: Bool} & none; D | U = {} & none; C | {a: Int} = {a: Int} & C; C | {a: Int, b: Bool} = {a: Int, b: Bool} & C; C | {a: Top} = {a: Top} & C; C | {} = {} & C; C | {a: Bool} = {a: Top} & none; C | {c: Int} = {} & none; C | {a: Int, c: Int} = {a: Int} & none; Xx | {} = {} & Xx; Xx | D = {} & none; Xx | Int = Top & none; M | {a: {}} = {a: {}} & M; M | {a: D} = {a: {a: Int}} & none; M | D = {a: Top} & none")
	rows(t, d, "F | ? = ? & F; F | H = ? & none; F | Int = Top & none; F | {} = Top & none; F | Q1 = Top & none; ? | C = Top & none; Q1 | C = Top & none; D | {a: ?} = {a: Top} & none")
	rows(t, d, "G | {a: Int} -> Int = {a: Int} -> Int & G; G | {a: Int, b: Int} -> Top = {a: Int, b: Int} -> Top & G; G | {} -> Int = {a: Int} -> Int & none; G | C -> Int = C -> Int & G; G | D -> Top = D -> Top & G; G | U -> Int = Top & none; G | W -> Int = Top & none; G | X1 = {a: Int} -> Top & none; X1 | {} -> Int = {a: Top} -> Top & none; X1 | C -> {} = C -> {} & X1; X1 | M -> D = M -> {a: Int} & none; G | Int = Top & none; G | {} = Top & none")
	// Variables within types, on either side of functions.
	rows(t, d, "A -> A | Int -> Int = A -> Int & Int -> A; A -> A | B -> B = Top & none; A -> Top | B -> Top = Top & Int -> Top; Top -> A | Top -> B = Top -> Int & none; A -> Int | Int -> A = A -> Int & Int -> A; {a: A} | {a: B} = {a: Int} & none; {a: A, b: B} | {a: Int, b: Int} = {a: Int, b: Int} & {a: A, b: B}; {a: A} | {b: A} = {} & {a: A, b: A}; {a: C} | {a: {b: Bool}, c: A} = {a: {b: Bool}} & {a: C, c: A}; C -> W | {} -> W = C -> W & {} -> W; C -> D | D -> C = Top & none; C -> D | {b: Bool} -> {a: Int} = C -> {a: Int} & {b: Bool} -> D; (A -> Int) -> A | (Int -> A) -> Int = (Int -> A) -> Int & (A -> Int) -> A; {a: W} | {a: V} = {a: Top} & none")
	// Names are held against each other byte by byte, and the bounds are found by their names.
	e := binds(t, "X: Int; XX: {a: Int}; Xx: String; X1: {a: Int}")
	rows(t, e, "X | Int = Int & X; XX | {} = {} & XX; Xx | String = String & Xx; X1 | XX = {a: Int} & none; X | XX = Top & none; Xx | XX = Top & none; Xxx | String = Top & none; Xa | Int = Top & none; Xa | Xb = Top & none")
	rows(t, nil, "A | A = A & A; A | B = Top & none; A | Int = Top & none; A | {} = Top & none; A -> A | A -> A = A -> A & A -> A; A -> B | A -> Int = A -> Top & none; A -> Int | B -> Int = Top & Top -> Int")
}

// P12.1, P12.2: whether a variable is below a type may depend on the bounds of the variables in that one.
func TestOtherVariables(t *testing.T) {
	rows(t, nil, "F | X -> Int = Top & none")
	rows(t, binds(t, "F: {} -> Int; X: {c: Int}; Y: Int"), "F | X -> Int = X -> Int & F; F | Y -> Int = Top & none; F | Z -> Int = Top & none")
	rows(t, binds(t, "Y: ?; X: {b: {}, c: Int}; F: {b: {}} -> Int; Z: Top"), "F | X -> Int = X -> Int & F; F | {b: X} -> Top = {b: X} -> Top & F; F | {b: Y} -> Int = Top & none; F | {c: Z} -> Int = {b: {}, c: Z} -> Int & none; (X -> Int) -> Int | F -> Int = F -> Int & (X -> Int) -> Int; (X -> Int) -> F | F -> X -> Int = F -> X -> Int & (X -> Int) -> F")
	rows(t, binds(t, "F: (Int -> {}) -> Int; X: Int; Y: {a: Int}; Z: Int"), "F | (X -> Y) -> Int = (Int -> Y) -> Int & none; F | (Int -> Y) -> Int = (Int -> Y) -> Int & F; F | (Top -> Y) -> Top = (Top -> Y) -> Top & F; F | (Y -> {}) -> Int = (Top -> {}) -> Int & none")
}

// P12.1, P12.2: functions. The absence of a meet leads to Top in the nearest join above it, and no further.
func TestFunctions(t *testing.T) {
	rows(t, nil, "Int -> Int | Int -> Int = Int -> Int & Int -> Int; Int -> Int | Int -> Bool = Int -> Top & none; Int -> Int | Bool -> Bool = Top & none; Top -> Int | Int -> Top = Int -> Top & Top -> Int; Int -> Int | Top -> Top = Int -> Top & Top -> Int; {a: Int} -> {a: Int} | {b: Int} -> {b: Int} = {a: Int, b: Int} -> {} & {} -> {a: Int, b: Int}; {a: Int} -> Int | {a: Bool} -> Int = Top & {a: Top} -> Int; {} -> {} | {a: Int} -> {a: Int} = {a: Int} -> {} & {} -> {a: Int}")
	rows(t, nil, "Int -> Int -> Int | Int -> Bool -> Int = Int -> Top & Int -> Top -> Int; Int -> Int -> Int | Int -> Int -> Bool = Int -> Int -> Top & none; (Int -> Int) -> Int | (Bool -> Int) -> Int = (Top -> Int) -> Int & Top -> Int; (Int -> Int) -> Int | (Int -> Bool) -> Int = Top & (Int -> Top) -> Int; ((Int -> Int) -> Int) -> Int | ((Bool -> Int) -> Int) -> Int = (Top -> Int) -> Int & ((Top -> Int) -> Int) -> Int; ((Int -> Int) -> Int) -> Int | ((Int -> Bool) -> Int) -> Int = ((Int -> Top) -> Int) -> Int & Top -> Int; (Int -> Int) -> Int | Int -> Int = Top & Top -> Int; Int -> Int | {} -> Int = Top & Top -> Int; Int -> Int | Int = Top & none")
	rows(t, nil, "{a: Int -> Int, b: Int} | {a: Bool -> Int, b: Bool} = {a: Top, b: Top} & none; {a: Int -> Int, b: Int} | {a: Bool -> Int, b: Int} = {a: Top, b: Int} & {a: Top -> Int, b: Int}; {a: {a: Int -> Int, b: Top}} | {a: {a: Bool -> Int, b: Int}} = {a: {a: Top, b: Top}} & {a: {a: Top -> Int, b: Int}}; {a: Int -> Int} -> Int | {a: Int -> Bool} -> Int = Top & {a: Int -> Top} -> Int; {a: Int -> Int} -> Int | {a: Bool -> Int} -> Int = {a: Top -> Int} -> Int & {a: Top} -> Int; Top -> {a: Int} -> Int | Top -> {a: Bool} -> Int = Top -> Top & Top -> {a: Top} -> Int")
	rows(t, nil, "(Int -> Int) -> (Int -> Int) | (Bool -> Int) -> (Bool -> Int) = (Top -> Int) -> Top & Top -> Top -> Int; {a: Int} -> {b: Int} -> {c: Int} | {b: Int} -> {c: Int} -> {a: Int} = {a: Int, b: Int} -> {b: Int, c: Int} -> {} & {} -> {} -> {a: Int, c: Int}; ({a: Int} -> {b: Int}) -> {c: Int} | ({b: Int} -> {c: Int}) -> {a: Int} = ({} -> {b: Int, c: Int}) -> {} & ({a: Int, b: Int} -> {}) -> {a: Int, c: Int}")
}

// P12.1, P12.2: records. The join has the fields of both; the meet all, and there is none if one of those of both has none.
func TestRecords(t *testing.T) {
	rows(t, nil, "{} | {} = {} & {}; {} | {a: Int} = {} & {a: Int}; {a: Int} | {a: Int} = {a: Int} & {a: Int}; {a: Int} | {b: Int} = {} & {a: Int, b: Int}; {a: Int, c: Int} | {b: Int} = {} & {a: Int, b: Int, c: Int}; {b: Int} | {a: Bool, b: Int, c: String} = {b: Int} & {a: Bool, b: Int, c: String}; {a: Int, b: Bool} | {a: Int, b: Int} = {a: Int, b: Top} & none; {a: Bool, b: Int} | {a: Int, b: Int} = {a: Top, b: Int} & none; {a: Top} | {a: Int} = {a: Top} & {a: Int}; {a: Top, b: Int} | {a: Int, b: Top} = {a: Top, b: Top} & {a: Int, b: Int}")
	rows(t, nil, "{a: {a: Int}} | {a: {b: Int}} = {a: {}} & {a: {a: Int, b: Int}}; {a: {a: Int}} | {a: {a: Bool}} = {a: {a: Top}} & none; {a: {a: Int}, b: Int} | {a: {}, c: Int} = {a: {}} & {a: {a: Int}, b: Int, c: Int}; {a: {}} | {a: Int} = {a: Top} & none; {a: Int, a0: Bool, aa: String} | {a: String, aa: String} = {a: Top, aa: String} & none; {a: Int, a0: Bool, aa: String} | {a0: Bool, ab: ?} = {a0: Bool} & {a: Int, a0: Bool, aa: String, ab: ?}; {z: Int} | {a: Int} = {} & {a: Int, z: Int}; {a: Int, c: Int, e: Int} | {b: Int, c: Int, d: Int, f: Int} = {c: Int} & {a: Int, b: Int, c: Int, d: Int, e: Int, f: Int}")
	rows(t, nil, "{} | Int = Top & none; {} | Int -> Int = Top & none; {a: Int} | Int = Top & none; {} | ? = Top & none; {} | Q1 = Top & none; {} | X = Top & none; {a: ?, b: Q1} | {a: ?, b: Q1, c: X} = {a: ?, b: Q1} & {a: ?, b: Q1, c: X}; {a: ?} | {a: Q1} = {a: Top} & none")
}

// P12.1, P12.2: all choices of up to six fields on both sides, and one field of another type.
func TestRecordChoices(t *testing.T) {
	labels := strings.Fields("a a0 b c1 c2 z")
	own := types(t, "Int; {a: ?, b: Int}; ?; {} -> Int; Top; X")
	other := types(t, "Top; {b: Top, c: X}; Top; {a: Int} -> Top; {}; {}")
	joins := types(t, "Top; {b: Top}; Top; {a: Int} -> Top; Top; {}")
	meets := types(t, "Int; {a: ?, b: Int, c: X}; ?; {} -> Int; {}; X")
	apart := types(t, "Bool; {a: Int}; Int; {a: Int} -> Bool; X; Y")
	d := binds(t, "X: {a: Int}; Y: {}")
	for x := range 64 {
		for y := range 64 {
			var a, b, join, meet api.Ty
			a.K, b.K, join.K, meet.K = 8, 8, 8, 8
			for i, s := range labels {
				left, right := x>>i&1 == 1, y>>i&1 == 1
				field := own[i]
				if left && right {
					join.Labels, join.Args = append(join.Labels, s), append(join.Args, joins[i])
					field = meets[i]
				} else if right {
					field = other[i]
				}
				if left {
					a.Labels, a.Args = append(a.Labels, s), append(a.Args, own[i])
				}
				if right {
					b.Labels, b.Args = append(b.Labels, s), append(b.Args, other[i])
				}
				if left || right {
					meet.Labels, meet.Args = append(meet.Labels, s), append(meet.Args, field)
				}
			}
			want(t, d, a, b, join, meet, true)
			for i, s := range labels {
				at := slices.Index(b.Labels, s)
				if at >= 0 {
					c := b
					c.Args = slices.Clone(b.Args)
					c.Args[at] = apart[i]
					if _, _, ok := wantSlow(t, d, a, c); ok != (x>>i&1 == 0 || i == 4) {
						t.Errorf("Meet of %v and %v: %v", a, c, ok)
					}
				}
			}
		}
	}
}

// couple is two types with their join and their meet.
type couple struct {
	a, b, join, meet api.Ty
	ok               bool
}

// within is the couple with so many layers around it, of all sorts by turns; in one sort joins and meets change sides.
// Beside what is within, the layers of both types are the same, or all of them differ.
func (c couple) within(n int, differ bool) couple {
	left, right, some, all := str, str, str, str
	if differ {
		left, right, some, all = rec("a", integer), rec("b", integer), empty, rec("a b", integer, integer)
	}
	for i := range n {
		switch i % 4 {
		case 0:
			c = couple{fun(left, c.a), fun(right, c.b), fun(all, c.join), fun(some, c.meet), c.ok}
		case 1:
			c = couple{rec("a b", c.a, left), rec("a b", c.b, right), rec("a b", c.join, some), rec("a b", c.meet, all), c.ok}
		case 2:
			join := top
			if c.ok {
				join = fun(c.meet, some)
			}
			c = couple{fun(c.a, left), fun(c.b, right), join, fun(c.join, all), true}
		case 3:
			c = couple{rec("a b", left, c.a), rec("a b", right, c.b), rec("a b", some, c.join), rec("a b", all, c.meet), c.ok}
		}
		if !c.ok {
			c.meet = api.Ty{}
		}
	}
	return c
}

// wantDeep writes no types: they are too great for the message.
func wantDeep(t *testing.T, d []api.Bind, c couple) {
	t.Helper()
	for _, x := range [][2]api.Ty{{c.a, c.b}, {c.b, c.a}} {
		if !alike(lat.Join(d, x[0], x[1]), c.join) {
			t.Errorf("Join of types of depth: %d nodes are wanted", len(list(c.join)))
		}
		if got, ok := lat.Meet(d, x[0], x[1]); !alike(got, c.meet) || ok != c.ok {
			t.Errorf("Meet of types of depth: %v, of %d nodes; %d are wanted", ok, len(list(got)), len(list(c.meet)))
		}
	}
}

// Types that are nested deeply, with what decides at the bottom.
func TestDeep(t *testing.T) {
	d := binds(t, "X: {a: Int}; Y: {b: Int}")
	x, y, bound, none := variable("X"), variable("Y"), rec("a", integer), api.Ty{}
	for _, c := range []couple{
		{integer, integer, integer, integer, true}, {integer, boolean, top, none, false}, {x, bound, bound, x, true}, {x, x, x, x, true},
		{x, y, empty, none, false}, {unknown, integer, top, none, false}, {unknown, top, top, unknown, true}, {seal(3), seal(4), top, none, false},
		{fun(x, x), fun(bound, bound), fun(x, bound), fun(bound, x), true}, {fun(x, x), fun(y, y), top, none, false}, {rec("a", x), rec("b", y), empty, rec("a b", x, y), true},
	} {
		for _, n := range []int{0, 1, 2, 3, 4, 5, 6, 7, 8, 9, 10, 11, 12, 13, 1 << 11} {
			wantDeep(t, d, c.within(n, false))
			wantDeep(t, d, c.within(n, true))
		}
	}
	for _, c := range []couple{{integer, boolean, top, none, false}, {x, bound, bound, x, true}} {
		for _, n := range []int{1<<16 - 6, 1<<16 - 3} {
			wantDeep(t, d, c.within(n, true))
		}
	}
}

// One type that is nested very deeply.
func TestDeepOne(t *testing.T) {
	d := append(binds(t, "X: {a: Int}; Y: Int"), bind("Z", couple{a: boolean}.within(1<<16-3, true).a))
	great, up, none := couple{a: variable("X")}.within(1<<16-3, true).a, d[2].Type, api.Ty{}
	wantDeep(t, d, couple{great, great, great, great, true})
	wantDeep(t, d, couple{great, top, top, great, true})
	wantDeep(t, d, couple{great, integer, top, none, false})
	wantDeep(t, d, couple{variable("Z"), up, up, variable("Z"), true})
	wantDeep(t, d, couple{variable("Z"), variable("Y"), top, none, false})
	wantDeep(t, d, couple{couple{}.within(1<<16-3, true).a, great, none, none, false})
}

// Absences of meets at many levels of one type, and at many places of another one.
func TestManyAbsent(t *testing.T) {
	const n = 1 << 12
	a, b, join := integer, boolean, top
	for i := range n {
		if i%2 == 0 {
			a, b, join = fun(top, a), fun(top, b), fun(top, join)
		} else {
			a, b, join = rec("a b", a, fun(integer, integer)), rec("a b", b, fun(boolean, integer)), rec("a b", join, top)
		}
	}
	wantDeep(t, nil, couple{a, b, join, api.Ty{}, false})
	l, r := wide(0, n, fun(integer, str)), wide(0, n, fun(boolean, str))
	wantDeep(t, nil, couple{l, r, wide(0, n, top), wide(0, n, fun(top, str)), true})
	wantDeep(t, nil, couple{fun(l, l), fun(r, r), fun(wide(0, n, fun(top, str)), wide(0, n, top)), fun(wide(0, n, top), wide(0, n, fun(top, str))), true})
}

// wide is a record of that many fields, from a label on that its number tells.
func wide(from, n int, a api.Ty) api.Ty {
	w := api.Ty{K: api.TRec}
	for i := range n {
		w.Labels = append(w.Labels, fmt.Sprintf("v%07x", from+i))
		w.Args = append(w.Args, a)
	}
	return w
}

// Records of many fields, and as many variables and bindings.
func TestWide(t *testing.T) {
	const n = 1 << 12
	none := api.Ty{}
	w := wide(0, n, integer)
	wantDeep(t, nil, couple{w, w, w, w, true})
	wantDeep(t, nil, couple{w, wide(n/4, n, integer), wide(n/4, n-n/4, integer), wide(0, n+n/4, integer), true})
	wantDeep(t, nil, couple{w, wide(n, n, integer), empty, wide(0, 2*n, integer), true})
	wantDeep(t, nil, couple{w, wide(n-1, 1, top), wide(n-1, 1, top), w, true})
	wantDeep(t, nil, couple{w, wide(n-1, 1, boolean), wide(n-1, 1, top), none, false})
	wantDeep(t, nil, couple{w, wide(0, n, boolean), wide(0, n, top), none, false})
	var d []api.Bind
	vars := wide(0, n, top)
	for i := range n {
		s := fmt.Sprintf("V%07x", i)
		d = append(d, bind(s, integer))
		vars.Args[n-1-i] = variable(s)
	}
	wantDeep(t, d, couple{w, vars, w, vars, true})
	join := wide(0, n, integer)
	join.Args[0] = top // the bound of that variable is left out
	wantDeep(t, d[:n-1], couple{w, vars, join, none, false})
	great := wide(0, n, variable("X"))
	wantDeep(t, append(d[:n:n], bind("X", wide(0, n/4, integer))), couple{great, wide(0, n, empty), wide(0, n, empty), great, true})
	for _, b := range []api.Bind{bind("V0000000", integer), bind("X", variable("X")), bind("x", integer)} {
		wantDeep(t, append(d[:n:n], b), couple{w, vars, none, none, false})
	}
}

// wrong is types that are not valid.
func wrong() []api.Ty {
	l := []api.Ty{
		{}, {K: -1}, {K: 10}, {K: math.MaxInt}, {K: math.MinInt}, seal(-1), seal(1<<30 + 1), seal(math.MinInt), seal(math.MaxInt), {K: api.TSeal, Name: "X"},
		variable("x"), variable(""), variable("Int"), variable("Abcdefghi"), {K: api.TVar, Name: "X", N: 1}, {K: api.TVar, Name: "X", Args: []api.Ty{integer}},
		{K: api.TFun}, {K: api.TFun, Args: []api.Ty{top}}, {K: api.TFun, Args: []api.Ty{top, top, top}}, {K: api.TFun, N: 1, Args: []api.Ty{top, top}},
		rec("b a", top, top), rec("a a", top, top), rec("a"), rec("", top), rec("a b", top), rec("a", top, top), rec("X", top), rec("in", top), rec("abcdefghi", top),
		{K: api.TRec, Name: "a"}, {K: api.TRec, N: 3}, {K: api.TRec, Labels: []string{""}, Args: []api.Ty{top}},
	}
	for k := api.TInt; k <= api.TDyn; k++ {
		l = append(l, api.Ty{K: k, N: 1}, api.Ty{K: k, Name: "X"}, api.Ty{K: k, Labels: []string{"a"}}, api.Ty{K: k, Args: []api.Ty{top}})
	}
	return l
}

// around is that type, and types that have it in some place.
func around(a api.Ty) []api.Ty {
	return []api.Ty{a, fun(a, top), fun(top, a), rec("a", a), rec("a b c", top, a, unknown), rec("a b c", top, str, a),
		fun(rec("x", fun(boolean, a)), rec("y", integer)), couple{a: a}.within(9, true).a}
}

// P12.1, P12.2: of a type that is not valid, on either side and at any place, there is nothing: not beside Top, nor beside
// itself, nor where no rule looks at it.
func TestWrong(t *testing.T) {
	none := api.Ty{}
	for _, d := range [][]api.Bind{nil, binds(t, "X: Int; Y: {a: Int}")} {
		for _, x := range wrong() {
			for _, a := range around(x) {
				want(t, d, a, a, none, none, false)
				want(t, d, rec("a b", integer, a), rec("a", integer), none, none, false)
				want(t, d, rec("a b", integer, a), rec("a", boolean), none, none, false)
				want(t, d, rec("a b", a, integer), empty, none, none, false)
				want(t, d, fun(top, a), fun(top, top), none, none, false)
				want(t, d, fun(a, integer), fun(a, boolean), none, none, false)
				want(t, d, fun(integer, a), fun(boolean, integer), none, none, false)
				for _, b := range types(t, "Int; Top; ?; X; Y; Q0; {}; Int -> ?; {a: Top}; Y -> Top") {
					want(t, d, a, b, none, none, false)
				}
			}
		}
	}
}

// P12.1, P12.2: with bounds that are not valid there is nothing, whether or not the types have to do with them.
func TestWrongBounds(t *testing.T) {
	var bad [][]api.Bind
	for _, x := range append(wrong(), types(t, "X; Y; Z; Q0; Q7")...) {
		for _, a := range around(x) {
			bad = append(bad, []api.Bind{bind("X", a)}, []api.Bind{bind("X", integer), bind("Y", a)}, []api.Bind{bind("X", a), bind("Y", integer)})
		}
	}
	for _, s := range []string{"", "x", "Int", "Top", "Abcdefghi", "X ", "X_", "\xff"} {
		bad = append(bad, []api.Bind{bind(s, integer)}, []api.Bind{bind("X", integer), bind(s, integer)}, []api.Bind{bind(s, integer), bind("X", integer)})
	}
	bad = append(bad, binds(t, "X: Int; X: Int"), binds(t, "X: Int; Y: Int; X: Top"), binds(t, "Y: Int; Y: ?; X: Int"))
	for _, d := range bad {
		for _, x := range [][2]string{{"Int", "Int"}, {"Int", "Top"}, {"Top", "Top"}, {"?", "?"}, {"Int", "Bool"}, {"X", "Int"}, {"X", "X"}, {"X", "Top"}, {"{}", "{}"}, {"{}", "{a: Int}"}, {"Int -> Int", "Bool -> Int"}} {
			want(t, d, parse(t, x[0]), parse(t, x[1]), api.Ty{}, api.Ty{}, false)
		}
	}
}

// P3: empty lists are as good as none.
func TestBlank(t *testing.T) {
	blank := func(k int) api.Ty { return api.Ty{K: k, Labels: []string{}, Args: []api.Ty{}} }
	for _, d := range [][]api.Bind{nil, {}} {
		for k := api.TInt; k <= api.TDyn; k++ {
			want(t, d, blank(k), api.Ty{K: k}, api.Ty{K: k}, api.Ty{K: k}, true)
			want(t, d, blank(k), top, top, api.Ty{K: k}, true)
		}
		want(t, d, blank(api.TRec), rec("a", integer), empty, rec("a", integer), true)
		want(t, d, blank(api.TRec), empty, empty, empty, true)
		want(t, d, blank(api.TInt), blank(api.TBool), top, api.Ty{}, false)
	}
	x := variable("X")
	want(t, []api.Bind{bind("X", blank(api.TRec))}, x, empty, empty, x, true)
	want(t, []api.Bind{bind("X", blank(api.TDyn))}, x, unknown, unknown, x, true)
	want(t, binds(t, "X: Int"), api.Ty{K: api.TVar, Name: "X", Labels: []string{}, Args: []api.Ty{}}, integer, integer, x, true)
}

// P4: what lies in memory behind a list that is handed in stays as it is.
func TestSpare(t *testing.T) {
	labels := []string{"a", "b", "z1", "z2", "z3"}
	args := []api.Ty{fun(integer, top), integer, str, str, str}
	d := append(binds(t, "X: Int; Y: Int"), bind("Z", str))
	a := api.Ty{K: api.TRec, Labels: labels[:2], Args: args[:2]}
	for _, b := range types(t, "{a: Int -> Int, b: Int, c: Int}; {a0: Int}; {a: Bool -> Top, c: X}; {c: Int, d: Y}; {b: X}; {}; {a: {}}") {
		wantSlow(t, d[:2], a, b)
		wantSlow(t, d[:2], fun(a, b), fun(b, a))
	}
	if !slices.Equal(labels, []string{"a", "b", "z1", "z2", "z3"}) || !alike(args[2], str) || !alike(args[3], str) || !alike(args[4], str) || !alike(d[2].Type, str) {
		t.Error("something is written behind a list")
	}
}

// small is the types of at most that depth, of leaves from a choice; records have the fields a and b.
func small(depth int, leaves []api.Ty) []api.Ty {
	if depth == 1 {
		return append([]api.Ty{empty}, leaves...)
	}
	parts := small(depth-1, leaves)
	l := slices.Clone(parts[:len(leaves)+1])
	for _, a := range parts {
		l = append(l, rec("a", a), rec("b", a))
		for _, b := range parts {
			l = append(l, fun(a, b), rec("a b", a, b))
		}
	}
	return l
}

// P12.1, P12.2, P12.3: all pairs of small types, with several bounds: against the definitions, and against all types of
// the choice that are above both, or below both.
func TestSmall(t *testing.T) {
	flat := small(2, types(t, "Int; Top; ?; Q0; X; Y"))
	for _, s := range []string{"", "X: Int", "X: Top; Y: ?", "X: {a: Int}; Y: {a: Int, b: ?}", "X: Top -> Int; Y: {a: Top}", "Y: Int -> {}; X: Int -> Top"} {
		holdSmall(t, binds(t, s), flat)
	}
	holdSmall(t, binds(t, "X: {a: {}} -> {}"), small(3, types(t, "X")))
	holdSmall(t, nil, small(3, types(t, "Int")))
}

func holdSmall(t *testing.T, d []api.Bind, l []api.Ty) {
	above := make([][]int, len(l)) // the types that are above each one
	below := make([][]int, len(l))
	for i, a := range l {
		for j, b := range l {
			if sub.Is(d, a, b) {
				above[i], below[j] = append(above[i], j), append(below[j], i)
			}
		}
	}
	found := 0
	for i, a := range l {
		for j, b := range l[:i+1] {
			join, meet, ok := wantSlow(t, d, a, b)
			for _, k := range above[i] {
				if _, both := slices.BinarySearch(above[j], k); both && !sub.Is(d, join, l[k]) {
					t.Errorf("%v is above %v and %v, with %v, and not above their join %v", l[k], a, b, d, join)
				}
			}
			for _, k := range below[i] {
				if _, both := slices.BinarySearch(below[j], k); both && !(ok && sub.Is(d, l[k], meet)) {
					t.Errorf("%v is below %v and %v, with %v, and not below their meet %v", l[k], a, b, d, meet)
				}
			}
			if ok {
				found++
			}
		}
	}
	if found < 2*len(l) || found > len(l)*len(l)*2/5 {
		t.Errorf("of %d types, %d pairs have a meet", len(l), found)
	}
}

// random is a type of at most that depth, of leaves from a choice.
func random(r *rand.Rand, depth int, leaves []api.Ty) api.Ty {
	if depth > 1 && r.Intn(4) > 0 {
		if r.Intn(2) == 0 {
			return fun(random(r, depth-1, leaves), random(r, depth-1, leaves))
		}
		a := api.Ty{K: api.TRec}
		for _, s := range []string{"a", "b", "c1", "d"} {
			if r.Intn(2) == 0 {
				a.Labels, a.Args = append(a.Labels, s), append(a.Args, random(r, depth-1, leaves))
			}
		}
		return a
	}
	return leaves[r.Intn(len(leaves))]
}

// moved is a type one step above that one, or below it, at some place; itself if there is no step there.
func moved(r *rand.Rand, d []api.Bind, a api.Ty, up bool, leaves []api.Ty) api.Ty {
	if len(a.Args) > 0 && r.Intn(4) > 0 {
		i := r.Intn(len(a.Args))
		a.Args = slices.Clone(a.Args)
		a.Args[i] = moved(r, d, a.Args[i], up != (a.K == 7 && i == 0), leaves)
		return a
	}
	i := slices.IndexFunc(d, func(b api.Bind) bool {
		return up && a.K == 6 && b.Name == a.Name || !up && exact(a) == exact(b.Type)
	})
	switch {
	case i >= 0 && up && r.Intn(2) == 0:
		return d[i].Type
	case i >= 0 && !up:
		return variable(d[i].Name)
	case a.K == 8 && up && len(a.Args) > 0:
		i := r.Intn(len(a.Args))
		a.Labels, a.Args = slices.Delete(slices.Clone(a.Labels), i, i+1), slices.Delete(slices.Clone(a.Args), i, i+1)
	case a.K == 8 && !up && !slices.Contains(a.Labels, "c0"):
		i, _ := slices.BinarySearch(a.Labels, "c0")
		a.Labels, a.Args = slices.Insert(slices.Clone(a.Labels), i, "c0"), slices.Insert(slices.Clone(a.Args), i, random(r, 2, leaves))
	case up && r.Intn(3) == 0:
		return top
	case !up && a.K == 4:
		return random(r, 3, leaves)
	}
	return a
}

// randomBounds is bounds of some of a few variables.
func randomBounds(r *rand.Rand, closed []api.Ty) []api.Bind {
	var d []api.Bind
	for _, s := range []string{"X", "Y", "Z", "Xx"} {
		if r.Intn(3) > 0 {
			d = append(d, bind(s, random(r, 3, closed)))
		}
	}
	return d
}

// P12.1, P12.2: random types against the definitions; many are near each other, and some are not valid.
func TestRandom(t *testing.T) {
	r := rand.New(rand.NewSource(15))
	closed := types(t, "Int; Bool; ?; Top; {}")
	leaves := append(slices.Clone(closed), types(t, "Q0; Q7; X; Y; Z; Xx")...)
	found, tops, bad := 0, 0, 0
	for range 30000 {
		d := randomBounds(r, closed)
		if len(d) > 0 && r.Intn(16) == 0 {
			odd := []api.Bind{bind("x", integer), bind("", top), d[0], bind("V", leaves[r.Intn(len(leaves))]), bind("V", random(r, 2, wrong()))}
			d = slices.Insert(d, r.Intn(len(d)+1), odd[r.Intn(len(odd))])
		}
		a := random(r, 4, leaves)
		b := a
		for range r.Intn(8) {
			b = moved(r, d, b, r.Intn(2) > 0, leaves)
		}
		if r.Intn(16) == 0 {
			b = random(r, 2, wrong())
		}
		if !slowRight(d) || !slowType(a, true) || !slowType(b, true) {
			want(t, d, a, b, api.Ty{}, api.Ty{}, false)
			bad++
			continue
		}
		join, _, ok := wantSlow(t, d, a, b)
		if ok {
			found++
		}
		if join.K == 4 {
			tops++
		}
	}
	if found < 10000 || found > 25000 || tops < 2000 || tops > 25000 || bad < 1000 || bad > 10000 {
		t.Errorf("of the random ones %d have a meet, %d join to Top, and %d are not valid", found, tops, bad)
	}
}

// P12.3: the laws that follow for three types.
func TestLaws(t *testing.T) {
	r := rand.New(rand.NewSource(16))
	closed := types(t, "Int; Bool; ?; Top; {}")
	leaves := append(slices.Clone(closed), types(t, "Q0; X; Y; Z; Xx")...)
	found := 0
	for range 20000 {
		d := randomBounds(r, closed)
		l := []api.Ty{random(r, 4, leaves)}
		for range 2 {
			b := l[0]
			for range r.Intn(6) {
				b = moved(r, d, b, r.Intn(2) > 0, leaves)
			}
			l = append(l, b)
		}
		if holdLaws(t, d, l[0], l[1], l[2]) {
			found++
		}
	}
	if found < 5000 || found > 18000 {
		t.Errorf("%d of the random ones have a meet", found)
	}
}

// holdLaws reports whether the three types have a meet.
func holdLaws(t *testing.T, d []api.Bind, a, b, c api.Ty) bool {
	t.Helper()
	ab, bc := lat.Join(d, a, b), lat.Join(d, b, c)
	if !alike(lat.Join(d, ab, c), lat.Join(d, a, bc)) || !sub.Is(d, ab, lat.Join(d, a, bc)) {
		t.Errorf("Join of %v, %v, %v, with %v", a, b, c, d)
	}
	if m, ok := lat.Meet(d, a, ab); !ok || !alike(m, a) {
		t.Errorf("Meet of %v and %v, with %v", a, ab, d)
	}
	left, ok := lat.Meet(d, a, b)
	if ok {
		if !alike(lat.Join(d, left, a), a) || !alike(lat.Join(d, b, left), b) {
			t.Errorf("Join of %v and %v or %v, with %v", left, a, b, d)
		}
		left, ok = lat.Meet(d, left, c)
	}
	right, found := lat.Meet(d, b, c)
	if found {
		right, found = lat.Meet(d, a, right)
	}
	if ok != found || !alike(left, right) {
		t.Errorf("Meet of %v, %v, %v, with %v: %v, %v", a, b, c, d, left, right)
	}
	return ok
}
