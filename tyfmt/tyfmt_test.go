package tyfmt_test

import (
	"fmt"
	"math"
	"math/rand"
	"reflect"
	"regexp"
	"strconv"
	"strings"
	"testing"

	"limbeck/api"
	"limbeck/ty"
	"limbeck/tyfmt"
)

var (
	integer = api.Ty{K: api.TInt}
	boolean = api.Ty{K: api.TBool}
	str     = api.Ty{K: api.TStr}
	top     = api.Ty{K: api.TTop}
	unknown = api.Ty{K: api.TDyn}
	empty   = api.Ty{K: api.TRec}
)

func variable(s string) api.Ty { return api.Ty{K: api.TVar, Name: s} }

func seal(n int) api.Ty { return api.Ty{K: api.TSeal, N: n} }

func fun(a, b api.Ty) api.Ty { return api.Ty{K: api.TFun, Args: []api.Ty{a, b}} }

func rec(labels string, args ...api.Ty) api.Ty {
	return api.Ty{K: api.TRec, Labels: strings.Fields(labels), Args: args}
}

func wantShow(t *testing.T, a api.Ty, want string) {
	t.Helper()
	if got := tyfmt.Show(a); got != want {
		t.Errorf("Show(%.300v) = %.300q, want %.300q", a, got, want)
	}
}

func wantList(t *testing.T, want string, l ...api.Ty) {
	t.Helper()
	if got := tyfmt.List(l); got != want {
		t.Errorf("List(%.300v) = %.300q, want %.300q", l, got, want)
	}
}

func wantBinds(t *testing.T, sign, want string, l ...api.Bind) {
	t.Helper()
	if got := tyfmt.Binds(l, sign); got != want {
		t.Errorf("Binds(%.300v, %q) = %.300q, want %.300q", l, sign, got, want)
	}
}

// slowShow writes the document's definition down once more, part by part.
func slowShow(a api.Ty) string {
	if !ty.Right(a) {
		return ""
	}
	words := map[int]string{1: "Int", 2: "Bool", 3: "String", 4: "Top", 5: "?", 6: a.Name, 9: "#" + strconv.Itoa(a.N)}
	var parts []string
	for i, x := range a.Args {
		s := slowShow(x)
		if a.K == 7 && i == 0 && x.K == 7 {
			s = "(" + s + ")"
		}
		if a.K == 8 {
			s = fmt.Sprintf("%s: %s", a.Labels[i], s)
		}
		parts = append(parts, s)
	}
	switch a.K {
	case 7:
		return strings.Join(parts, " -> ")
	case 8:
		return "{" + strings.Join(parts, ", ") + "}"
	}
	return words[a.K]
}

// reader reads a text back; its grammar takes no other text than the ones that are asked for.
type reader struct {
	t    *testing.T
	text string
}

func (r *reader) take(pattern *regexp.Regexp) (string, bool) {
	s := pattern.FindString(r.text)
	r.text = r.text[len(s):]
	return s, s != ""
}

var (
	arrow  = regexp.MustCompile(`^ -> `)
	open   = regexp.MustCompile(`^\(`)
	shut   = regexp.MustCompile(`^\)`)
	begin  = regexp.MustCompile(`^\{`)
	finish = regexp.MustCompile(`^\}`)
	comma  = regexp.MustCompile(`^, `)
	label  = regexp.MustCompile(`^[a-z][a-z0-9]*: `)
	number = regexp.MustCompile(`^#(0|[1-9][0-9]*)`)
	word   = regexp.MustCompile(`^(\?|[A-Z][A-Za-z0-9]*)`)
)

func (r *reader) whole() api.Ty {
	a := r.simple()
	if _, ok := r.take(arrow); ok {
		return fun(a, r.whole())
	}
	return a
}

func (r *reader) simple() api.Ty {
	if _, ok := r.take(open); ok {
		a := r.whole()
		if _, ok := r.take(shut); !ok || a.K != api.TFun {
			r.t.Errorf("parentheses before %.100q around %.100v", r.text, a)
		}
		return a
	}
	if _, ok := r.take(begin); ok {
		return r.fields()
	}
	if s, ok := r.take(number); ok {
		n, err := strconv.Atoi(s[1:])
		if err != nil {
			r.t.Error(err)
		}
		return seal(n)
	}
	switch s, _ := r.take(word); s {
	case "Int":
		return integer
	case "Bool":
		return boolean
	case "String":
		return str
	case "Top":
		return top
	case "?":
		return unknown
	default:
		return variable(s)
	}
}

func (r *reader) fields() api.Ty {
	a := api.Ty{K: api.TRec}
	for {
		if _, ok := r.take(finish); ok {
			return a
		}
		if _, ok := r.take(comma); ok != (len(a.Labels) > 0) {
			r.t.Errorf("comma before %.100q", r.text)
			return a
		}
		s, ok := r.take(label)
		if !ok {
			r.t.Errorf("no label before %.100q", r.text)
			return a
		}
		a.Labels = append(a.Labels, s[:len(s)-2])
		a.Args = append(a.Args, r.whole())
	}
}

// wantRead holds a text of a valid type against the definition, and reads it back as that type.
func wantRead(t *testing.T, a api.Ty) {
	t.Helper()
	text := tyfmt.Show(a)
	wantShow(t, a, slowShow(a))
	r := &reader{t, text}
	if b := r.whole(); r.text != "" || !ty.Same(a, b) {
		t.Errorf("%.300q of %.300v is read as %.300v, with %.100q left", text, a, b, r.text)
	}
}

// P5.1: the document's examples.
func TestShowExamples(t *testing.T) {
	wantShow(t, fun(fun(integer, boolean), integer), "(Int -> Bool) -> Int")
	wantShow(t, rec("a b", integer, fun(integer, fun(boolean, integer))), "{a: Int, b: Int -> Bool -> Int}")
	wantShow(t, seal(12), "#12")
	wantShow(t, empty, "{}")
}

// P5.1: each kind of type.
func TestShowKinds(t *testing.T) {
	wantShow(t, integer, "Int")
	wantShow(t, boolean, "Bool")
	wantShow(t, str, "String")
	wantShow(t, top, "Top")
	wantShow(t, unknown, "?")
	for _, s := range []string{"X", "Xy1", "Abcdefgh", "TOP", "Ints", "Z9999999"} {
		wantShow(t, variable(s), s)
	}
	wantShow(t, seal(0), "#0")
	wantShow(t, seal(9), "#9")
	wantShow(t, seal(10), "#10")
	wantShow(t, seal(1000000007), "#1000000007")
	wantShow(t, seal(1<<30), "#1073741824")
	wantShow(t, fun(unknown, top), "? -> Top")
	wantShow(t, rec("abcdefgh", str), "{abcdefgh: String}")
	wantShow(t, rec("a a0 aa b", variable("X"), seal(3), empty, unknown), "{a: X, a0: #3, aa: {}, b: ?}")
	wantShow(t, api.Ty{K: api.TInt, Labels: []string{}, Args: []api.Ty{}}, "Int")
	wantShow(t, api.Ty{K: api.TRec, Labels: []string{}, Args: []api.Ty{}}, "{}")
}

// P5.1: parentheses stand around a param that is a function, and nowhere else.
func TestShowParentheses(t *testing.T) {
	x, y, z := variable("X"), variable("Y"), variable("Z")
	wantShow(t, fun(x, fun(y, z)), "X -> Y -> Z")
	wantShow(t, fun(fun(x, y), z), "(X -> Y) -> Z")
	wantShow(t, fun(fun(x, y), fun(y, z)), "(X -> Y) -> Y -> Z")
	wantShow(t, fun(x, fun(fun(y, z), x)), "X -> (Y -> Z) -> X")
	wantShow(t, fun(fun(fun(x, y), z), x), "((X -> Y) -> Z) -> X")
	wantShow(t, fun(fun(x, fun(y, z)), x), "(X -> Y -> Z) -> X")
	wantShow(t, fun(rec("a", fun(x, y)), rec("b", fun(y, x))), "{a: X -> Y} -> {b: Y -> X}")
	wantShow(t, fun(empty, empty), "{} -> {}")
	wantShow(t, rec("a b", fun(fun(x, y), z), rec("c", fun(x, fun(y, z)))), "{a: (X -> Y) -> Z, b: {c: X -> Y -> Z}}")
	wantShow(t, rec("a", rec("a", rec("a", fun(fun(integer, integer), unknown)))), "{a: {a: {a: (Int -> Int) -> ?}}}")
	for _, a := range []api.Ty{integer, boolean, str, top, unknown, x, seal(7), empty, rec("a", top)} {
		wantShow(t, fun(a, a), slowShow(a)+" -> "+slowShow(a))
	}
}

// wrong lists types that are not valid, by themselves.
func wrong() []api.Ty {
	return []api.Ty{
		{}, {K: -1}, {K: 10}, {K: math.MaxInt}, {K: math.MinInt}, {K: 10, Name: "X"}, {K: 0, Args: []api.Ty{integer, integer}},
		{K: api.TInt, N: 1}, {K: api.TBool, Name: "X"}, {K: api.TStr, Labels: []string{"a"}}, {K: api.TTop, Args: []api.Ty{integer}}, {K: api.TDyn, N: -1},
		variable(""), variable("x"), variable("Int"), variable("Abcdefghi"), variable("X "), variable("\xff"), {K: api.TVar, Name: "X", N: 1},
		seal(-1), seal(1<<30 + 1), seal(math.MinInt), seal(math.MaxInt), {K: api.TSeal, N: 1, Name: "X"},
		{K: api.TFun}, {K: api.TFun, Args: []api.Ty{integer}}, {K: api.TFun, Args: []api.Ty{integer, integer, integer}}, {K: api.TFun, Name: "X", Args: []api.Ty{top, top}},
		rec("a"), rec("", integer), rec("a b", integer), rec("a", integer, integer), rec("b a", top, top), rec("a a", top, top), rec("X", top), rec("let", top), rec("abcdefghi", top),
		{K: api.TRec, N: 1}, {K: api.TRec, Name: "X"}, {K: api.TRec, Labels: []string{""}, Args: []api.Ty{top}},
	}
}

// P5.1: a type that is not valid has no text, and neither has one within which it stands.
func TestShowWrong(t *testing.T) {
	for _, a := range wrong() {
		wantShow(t, a, "")
		wantShow(t, fun(a, integer), "")
		wantShow(t, fun(integer, a), "")
		wantShow(t, fun(fun(top, fun(a, top)), top), "")
		wantShow(t, rec("a", a), "")
		wantShow(t, rec("a b c", integer, rec("d", fun(unknown, a)), top), "")
	}
}

// P5.2: the document's example, and ordinary lists.
func TestList(t *testing.T) {
	wantList(t, "Int, Bool", integer, boolean)
	wantList(t, "")
	if got := tyfmt.List(nil) + tyfmt.List([]api.Ty{}); got != "" {
		t.Errorf("List of nothing: %q", got)
	}
	wantList(t, "Int", integer)
	wantList(t, "{}", empty)
	wantList(t, "Int -> Bool", fun(integer, boolean))
	wantList(t, "Int -> Bool, (X -> ?) -> Top, #4", fun(integer, boolean), fun(fun(variable("X"), unknown), top), seal(4))
	wantList(t, "{a: Int, b: Bool}, {}, {c: {a: Int, b: Bool}}", rec("a b", integer, boolean), empty, rec("c", rec("a b", integer, boolean)))
	wantList(t, "Top, Top, Top", top, top, top)
	wantList(t, strings.Repeat("String, ", 999)+"String", many(1000, str)...)
}

func many[T any](n int, x T) []T {
	l := make([]T, n)
	for i := range l {
		l[i] = x
	}
	return l
}

// P5.2: types that are not valid have empty texts, which are separated like others.
func TestListWrong(t *testing.T) {
	for _, a := range wrong() {
		wantList(t, "", a)
		wantList(t, ", ", a, a)
		wantList(t, "Int, ", integer, a)
		wantList(t, ", Int", a, integer)
		wantList(t, "X -> X, , , ?", fun(variable("X"), variable("X")), a, fun(integer, a), unknown)
	}
}

func bind(s string, a api.Ty) api.Bind { return api.Bind{Name: s, Type: a} }

// P5.2: the document's example of Binds, and ordinary bindings.
func TestBinds(t *testing.T) {
	wantBinds(t, " <: ", "X <: Int, Y <: Bool", bind("X", integer), bind("Y", boolean))
	wantBinds(t, ": ", "x: Int -> Int, y: {a: Int, b: ?}", bind("x", fun(integer, integer)), bind("y", rec("a b", integer, unknown)))
	wantBinds(t, " <: ", "X <: X -> (Y -> #1) -> Top", bind("X", fun(variable("X"), fun(fun(variable("Y"), seal(1)), top))))
	wantBinds(t, "=", "a={}, a={}, b=String", bind("a", empty), bind("a", empty), bind("b", str))
	wantBinds(t, " <: ", "")
	if got := tyfmt.Binds(nil, ": ") + tyfmt.Binds([]api.Bind{}, ": "); got != "" {
		t.Errorf("Binds of nothing: %q", got)
	}
	wantBinds(t, "-", strings.Repeat("k-?, ", 999)+"k-?", many(1000, bind("k", unknown))...)
}

// P5.2: names and signs are any bytes; a type that is not valid has an empty text.
func TestBindsWrong(t *testing.T) {
	wantBinds(t, "", "XInt, Bool, , let?", bind("X", integer), bind("", boolean), bind("", api.Ty{}), bind("let", unknown))
	wantBinds(t, ", ", "\xff\x00, Int, %s, Top", bind("\xff\x00", integer), bind("%s", top))
	for _, a := range wrong() {
		wantBinds(t, ": ", "x: ", bind("x", a))
		wantBinds(t, ": ", "x: , y: Int, z: , : ", bind("x", a), bind("y", integer), bind("z", fun(a, a)), bind("", a))
	}
}

// List and Binds are made of the texts of Show, whatever the types are.
func TestTogether(t *testing.T) {
	r := rand.New(rand.NewSource(3))
	bad := wrong()
	for range 3000 {
		var l []api.Ty
		var binds []api.Bind
		var texts, bound []string
		sign := []string{"", ": ", " <: ", "\x80"}[r.Intn(4)]
		for i := range r.Intn(6) {
			a := random(r, 4)
			if r.Intn(5) == 0 {
				a = fun(a, bad[r.Intn(len(bad))])
			}
			s := []string{"x", "Y", "", "a1"}[r.Intn(4)] + strconv.Itoa(i)
			l, binds = append(l, a), append(binds, bind(s, a))
			texts, bound = append(texts, slowShow(a)), append(bound, s+sign+slowShow(a))
		}
		wantList(t, strings.Join(texts, ", "), l...)
		wantBinds(t, sign, strings.Join(bound, ", "), binds...)
	}
}

// random is a valid type of at most that depth.
func random(r *rand.Rand, deep int) api.Ty {
	if deep > 1 && r.Intn(4) > 0 {
		if r.Intn(2) == 0 {
			return fun(random(r, deep-1), random(r, deep-1))
		}
		a := api.Ty{K: api.TRec}
		for _, s := range []string{"a", "a1", "b", "c1"} {
			if r.Intn(2) == 0 {
				a.Labels, a.Args = append(a.Labels, s), append(a.Args, random(r, deep-1))
			}
		}
		return a
	}
	return []api.Ty{integer, boolean, str, top, unknown, variable("X"), variable("I"), variable("Intx"), seal(r.Intn(100)), seal(1 << 30), empty}[r.Intn(11)]
}

// P5.1, P5.3: random types of some depth, read back.
func TestRandom(t *testing.T) {
	r := rand.New(rand.NewSource(5))
	for range 20000 {
		wantRead(t, random(r, 1+r.Intn(7)))
	}
}

// small lists all valid types of at most that depth, made of a few parts.
func small(deep int) []api.Ty {
	l := []api.Ty{integer, top, unknown, variable("X"), seal(0), seal(1), seal(10), empty}
	if deep == 1 {
		return l
	}
	less := small(deep - 1)
	for i, a := range less {
		l = append(l, rec("a", a), rec("b", a))
		for j, b := range less {
			if deep < 3 || (i+j)%7 == 0 {
				l = append(l, fun(a, b), rec("a b", a, b), rec("a c", a, b))
			}
		}
	}
	return l
}

// P5.3: no two of many small types have the same text, and each text is that of its type.
func TestDifferent(t *testing.T) {
	seen := map[string]api.Ty{}
	for _, a := range small(3) {
		text := tyfmt.Show(a)
		if b, ok := seen[text]; ok && !ty.Same(a, b) || text == "" {
			t.Fatalf("%q is the text of %v and of %v", text, a, b)
		}
		seen[text] = a
		wantRead(t, a)
	}
	if len(seen) < 20000 {
		t.Errorf("only %d texts", len(seen))
	}
}

// P5.1: types that are nested as deeply as may be, in each way of nesting; there is no limit of nodes.
func TestDeep(t *testing.T) {
	const n = 1<<16 - 1
	left, right, field, both := top, top, top, top
	for i := range n {
		left, right, field = fun(left, integer), fun(integer, right), rec("a", field)
		if i%2 == 0 {
			both = fun(both, seal(0))
		} else {
			both = rec("a b", unknown, both)
		}
	}
	wantShow(t, left, strings.Repeat("(", n-1)+"Top"+strings.Repeat(" -> Int)", n-1)+" -> Int")
	wantShow(t, right, strings.Repeat("Int -> ", n)+"Top")
	wantShow(t, field, strings.Repeat("{a: ", n)+"Top"+strings.Repeat("}", n))
	half := n / 2
	wantShow(t, both, strings.Repeat("{a: ?, b: ", half)+"Top"+strings.Repeat(" -> #0}", half)+" -> #0")
	wantList(t, strings.Repeat("{a: ", n)+"Top"+strings.Repeat("}", n)+", "+strings.Repeat("Int -> ", n)+"Top", field, right)
	wantShow(t, fun(right, seal(-1)), "")
}

// P5.1: a record of many fields.
func TestWide(t *testing.T) {
	a := api.Ty{K: api.TRec}
	var parts []string
	for i := range 26 * 26 {
		s := string([]byte{byte('a' + i/26), byte('a' + i%26), '1'})
		a.Labels, a.Args = append(a.Labels, s), append(a.Args, seal(i))
		parts = append(parts, fmt.Sprintf("%s: #%d", s, i))
	}
	wantShow(t, a, "{"+strings.Join(parts, ", ")+"}")
}

// P4, P5: arguments stay as they are, and a second call answers the same.
func TestUnchanged(t *testing.T) {
	fresh := func() ([]api.Ty, []api.Bind) {
		l := []api.Ty{rec("b a", top, fun(integer, api.Ty{})), rec("a b", fun(fun(unknown, top), seal(2)), variable("X")), empty}
		return l, []api.Bind{bind("y", l[1]), bind("x", l[0])}
	}
	l, binds := fresh()
	for range 2 {
		wantShow(t, l[1], "{a: (? -> Top) -> #2, b: X}")
		wantList(t, ", {a: (? -> Top) -> #2, b: X}, {}", l...)
		wantBinds(t, ":", "y:{a: (? -> Top) -> #2, b: X}, x:", binds...)
	}
	if wantL, wantB := fresh(); !reflect.DeepEqual(l, wantL) || !reflect.DeepEqual(binds, wantB) {
		t.Errorf("changed to %v, %v", l, binds)
	}
}
