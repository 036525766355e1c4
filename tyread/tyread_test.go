package tyread_test

import (
	"fmt"
	"math"
	"math/rand"
	"reflect"
	"regexp"
	"slices"
	"sort"
	"strings"
	"testing"

	"limbeck/api"
	"limbeck/fault"
	"limbeck/lex"
	"limbeck/ty"
	"limbeck/tyfmt"
	"limbeck/tyread"
)

var (
	integer = api.Ty{K: api.TInt}
	boolean = api.Ty{K: api.TBool}
	str     = api.Ty{K: api.TStr}
	top     = api.Ty{K: api.TTop}
	unknown = api.Ty{K: api.TDyn}
	empty   = api.Ty{K: api.TRec}
)

func variable(s string) api.Ty { return api.Ty{K: api.TVar, Name: s} }

func fun(a, b api.Ty) api.Ty { return api.Ty{K: api.TFun, Args: []api.Ty{a, b}} }

func rec(labels string, args ...api.Ty) api.Ty {
	return api.Ty{K: api.TRec, Labels: strings.Fields(labels), Args: args}
}

// short writes a value for a message: a type may be great.
func short(x any) string {
	s := fmt.Sprint(x)
	return s[:min(len(s), 300)]
}

func isFault(err error, code api.Errno, at int) bool {
	return fault.Code(err) == code && fault.At(err) == at && fault.Def(err) == "" && fault.Is(err, code) && !fault.Is(err, api.OK)
}

func wantParse(t *testing.T, s string, want api.Ty) {
	t.Helper()
	if got, err := tyread.Parse(s); err != nil || !ty.Same(got, want) {
		t.Errorf("Parse(%.200q) = %s, %v, want %s", s, short(got), err, short(want))
	}
}

func wantNoParse(t *testing.T, s string, code api.Errno, at int) {
	t.Helper()
	got, err := tyread.Parse(s)
	if !isFault(err, code, at) {
		t.Errorf("Parse(%.200q): error %d at %d, want %d at %d", s, fault.Code(err), fault.At(err), code, at)
	}
	if !ty.Same(got, api.Ty{}) {
		t.Errorf("Parse(%.200q): %s beside an error", s, short(got))
	}
}

func wantRead(t *testing.T, l []api.Token, at, deep int, want api.Ty, after int) {
	t.Helper()
	got, to, err := tyread.Read(l, at, deep)
	if err != nil || to != after || !ty.Same(got, want) {
		t.Errorf("Read(%s, %d, %d) = %s, %d, %v, want %s, %d", short(l), at, deep, short(got), to, err, short(want), after)
	}
}

func wantNoRead(t *testing.T, l []api.Token, at, deep int, code api.Errno, pos int) {
	t.Helper()
	got, to, err := tyread.Read(l, at, deep)
	if !isFault(err, code, pos) {
		t.Errorf("Read(%s, %d, %d): error %d at %d, want %d at %d", short(l), at, deep, fault.Code(err), fault.At(err), code, pos)
	}
	if to != 0 || !ty.Same(got, api.Ty{}) {
		t.Errorf("Read(%s, %d, %d): %s and %d beside an error", short(l), at, deep, short(got), to)
	}
}

func wantSign(t *testing.T, l []api.Token, at int, sign string) {
	t.Helper()
	if err := tyread.Want(l, at, sign); err != nil {
		t.Errorf("Want(%s, %d, %q): error %d at %d", short(l), at, sign, fault.Code(err), fault.At(err))
	}
}

func wantNoSign(t *testing.T, l []api.Token, at int, sign string, code api.Errno, pos int) {
	t.Helper()
	if err := tyread.Want(l, at, sign); !isFault(err, code, pos) {
		t.Errorf("Want(%s, %d, %q): error %d at %d, want %d at %d", short(l), at, sign, fault.Code(err), fault.At(err), code, pos)
	}
}

// all is the tokens of a source without faults.
func all(t *testing.T, s string) []api.Token {
	t.Helper()
	l, err := lex.All(s)
	if err != nil {
		t.Fatalf("%q has no tokens: %v", s, err)
	}
	return l
}

// tokens makes tokens of words that stand apart, as no lexer would: without an end, and each with a position that is not its index.
func tokens(words string) []api.Token {
	kinds := []struct {
		k    int
		form *regexp.Regexp
	}{
		{api.TkEnd, regexp.MustCompile(`^END$`)}, {api.TkInt, regexp.MustCompile(`^\d`)}, {api.TkStr, regexp.MustCompile(`^"`)},
		{api.TkName, regexp.MustCompile(`^[a-z]`)}, {api.TkType, regexp.MustCompile(`^[A-Z]`)}, {api.TkSign, regexp.MustCompile(`.`)},
	}
	var l []api.Token
	for i, s := range strings.Fields(words) {
		for _, x := range kinds {
			if x.form.MatchString(s) {
				l = append(l, api.Token{K: x.k, S: s, At: pos(i)})
				break
			}
		}
	}
	return l
}

// pos is the position that tokens gives to the token with that index.
func pos(i int) int { return 3*i + 5 }

// P6.2: the document's examples.
func TestParseExamples(t *testing.T) {
	wantParse(t, "{ b : Int , a : {} }", rec("a b", empty, integer))
	wantNoParse(t, "int", api.ErrWord, 0)
	wantNoParse(t, "Int ->", api.ErrEnd, 6)
	wantNoParse(t, "Int)", api.ErrWord, 3)
	wantNoParse(t, "{a: Int, a: Int}", api.ErrTwice, 9)
	wantNoParse(t, "{a: Int,}", api.ErrWord, 8)
	wantNoParse(t, "Int#", api.ErrChar, 3)
}

// P6.1: the document's examples of Read and of Want.
func TestTokenExamples(t *testing.T) {
	l := tokens("? ,")
	wantRead(t, l, 0, 1, unknown, 1)
	wantSign(t, l, 1, ",")
	wantNoSign(t, l, 0, ",", api.ErrWord, pos(0))
	wantNoSign(t, l, 2, ",", api.ErrEnd, 0)
}

// P6.2: each simple type, by itself and within others.
func TestSimple(t *testing.T) {
	for s, a := range map[string]api.Ty{
		"Int": integer, "Bool": boolean, "String": str, "Top": top, "?": unknown, "{}": empty, "{ }": empty,
		"X": variable("X"), "Xy1": variable("Xy1"), "Abcdefgh": variable("Abcdefgh"), "INT": variable("INT"), "Ints": variable("Ints"), "In": variable("In"),
		"{a: X}": rec("a", variable("X")), "{a:?,b:Top}": rec("a b", unknown, top),
	} {
		wantParse(t, s, a)
		wantParse(t, "("+s+")", a)
		wantParse(t, " ( ( "+s+" ) )\n", a)
		wantParse(t, s+"->"+s, fun(a, a))
		wantParse(t, s+" -> ("+s+")", fun(a, a))
		wantParse(t, "{a: "+s+"}", rec("a", a))
		wantParse(t, "{b: Int, a1: "+s+", a: "+s+"}", rec("a a1 b", a, a, integer))
		wantParse(t, "; note\n\t"+s+" ; Int", a)
	}
}

// P6.2: what differs from a type word a little is a variable, or no type.
func TestNearTypeWords(t *testing.T) {
	var near []string
	for _, s := range []string{"Int", "Bool", "String", "Top"} {
		near = append(near, s[:len(s)-1], s[:1], s+"s", s+"1", s+"X", "X"+s, strings.ToUpper(s))
		wantNoParse(t, strings.ToLower(s), api.ErrWord, 0)
		wantNoParse(t, "x"+strings.ToLower(s), api.ErrWord, 0)
	}
	for _, s := range append(near, "Str", "Boolean", "Integer", "Dyn", "Any", "Unknown", "Fun", "Rec", "Let", "True", "IN") {
		wantParse(t, s, variable(s))
		wantParse(t, "{a: "+s+" -> Int}", rec("a", fun(variable(s), integer)))
	}
}

// P6.2: an arrow reaches to the right, parentheses set a type apart, and braces do as they do.
func TestArrows(t *testing.T) {
	x, y, z := variable("X"), variable("Y"), variable("Z")
	wantParse(t, "X -> Y -> Z", fun(x, fun(y, z)))
	wantParse(t, "X -> (Y -> Z)", fun(x, fun(y, z)))
	wantParse(t, "(X -> Y) -> Z", fun(fun(x, y), z))
	wantParse(t, "(X -> Y) -> Y -> Z", fun(fun(x, y), fun(y, z)))
	wantParse(t, "X -> (Y -> Z) -> X", fun(x, fun(fun(y, z), x)))
	wantParse(t, "((X -> Y) -> Z) -> X", fun(fun(fun(x, y), z), x))
	wantParse(t, "(X -> Y -> Z) -> X", fun(fun(x, fun(y, z)), x))
	wantParse(t, "(X) -> ((Y)) -> (((Z)))", fun(x, fun(y, z)))
	wantParse(t, "{a: X -> Y, b: (X -> Y) -> Z} -> {c: X} -> Z", fun(rec("a b", fun(x, y), fun(fun(x, y), z)), fun(rec("c", x), z)))
	wantParse(t, "?->?->?->?", fun(unknown, fun(unknown, fun(unknown, unknown))))
}

// P6.2: fields come out sorted, each with its own type; a label may occur in another record, before, after or within.
func TestRecords(t *testing.T) {
	abc := rec("a b c", integer, boolean, str)
	for _, s := range []string{"a: Int, b: Bool, c: String", "a: Int, c: String, b: Bool", "b: Bool, a: Int, c: String", "b: Bool, c: String, a: Int", "c: String, a: Int, b: Bool", "c: String, b: Bool, a: Int"} {
		wantParse(t, "{"+s+"}", abc)
	}
	wantParse(t, "{b1: ?, b: Int, abcdefgh: Bool, a9: Top, a: String, aa: X}", rec("a a9 aa abcdefgh b b1", str, top, variable("X"), boolean, integer, unknown))
	wantParse(t, "{a: {a: {a: Int}}, b: {a: Top}}", rec("a b", rec("a", rec("a", integer)), rec("a", top)))
	wantParse(t, "{b: {a: Top, b: ?}, a: {b: X, a: {}}}", rec("a b", rec("a b", empty, variable("X")), rec("a b", top, unknown)))
	wantParse(t, "{a: Int} -> {a: Int}", fun(rec("a", integer), rec("a", integer)))
	wantParse(t, "{in1: Int, lets: Bool, truex: Top}", rec("in1 lets truex", integer, boolean, top))
}

// P6.1: ErrTwice is at the label itself, ahead of whatever is wrong after it, and of no label in another record.
func TestTwice(t *testing.T) {
	wantNoParse(t, "{a: Int, a", api.ErrTwice, 9)
	wantNoParse(t, "{a: Int, a Int}", api.ErrTwice, 9)
	wantNoParse(t, "{a: Int, a: int}", api.ErrTwice, 9)
	wantNoParse(t, "{a: Int, b: Int, a: Int}", api.ErrTwice, 17)
	wantNoParse(t, "{b: Int, a: Int, a: Int}", api.ErrTwice, 17)
	wantNoParse(t, "{c: Int, a: Int, b: Int, a: Int, c: Int}", api.ErrTwice, 25)
	wantNoParse(t, "{a: {a: ?, a: ?}, a: ?}", api.ErrTwice, 11)
	wantNoParse(t, "{a: {a: ?}, b: {a: ?}, a: ?}", api.ErrTwice, 23)
	wantNoParse(t, "{a: ?} -> {b: ?, b: ?}", api.ErrTwice, 17)
	wantNoParse(t, "({a: ? -> ?, a: ?})", api.ErrTwice, 13)
	wantNoParse(t, "{abcdefgh: ?, abcdefg: ?, abcdefgh: ?}", api.ErrTwice, 26)
	wantNoParse(t, "{a: Int, a: Int} #", api.ErrChar, 17)
}

// P6.1: ErrWord is at the first token that cannot stand where it is, whatever comes after it.
func TestWord(t *testing.T) {
	others := []string{")", "}", "[", "]", ",", ":", ".", "=", "=>", "<:", "++", "==", "+", "-", "*", "/", "<", "7", `"a"`, `""`, `"Int"`, `"("`, `"?"`, "x", "int", "let", "in", "if", "then", "else", "fn", "call", "def", "true", "false"}
	for _, s := range append([]string{"->"}, others...) {
		wantNoParse(t, s, api.ErrWord, 0)
		wantNoParse(t, " "+s+" ; Int", api.ErrWord, 1)
		wantNoParse(t, "X -> "+s, api.ErrWord, 5)
		wantNoParse(t, "X -> "+s+" -> X", api.ErrWord, 5)
		wantNoParse(t, "("+s+")", api.ErrWord, 1)
		wantNoParse(t, "{a: "+s+"}", api.ErrWord, 4)
		wantNoParse(t, "{a: ?, b: {c: "+s+", c: ?}, a: ?", api.ErrWord, 14)
		wantNoParse(t, "{a: (? -> "+s+"), a", api.ErrWord, 10)
	}
	for _, s := range append([]string{"X", "Int", "?", "(", "{", "{}"}, others...) {
		if s != ")" {
			wantNoParse(t, "(X "+s, api.ErrWord, 3)
			wantNoParse(t, "(X -> X "+s+")", api.ErrWord, 8)
		}
		if s != "," && s != "}" {
			wantNoParse(t, "{a: X "+s+"}", api.ErrWord, 6)
		}
		if s != ":" {
			wantNoParse(t, "{a "+s+": X}", api.ErrWord, 3)
		}
		wantNoParse(t, "X "+s, api.ErrWord, 2)
		wantNoParse(t, "{} "+s+" -> X", api.ErrWord, 3)
		wantNoParse(t, "(X) "+s, api.ErrWord, 4)
	}
	// In place of a label.
	for _, s := range append([]string{"X", "Int", "?", "(", "{", "->"}, others...) {
		if s == "x" || s == "int" {
			continue
		}
		if s != "}" {
			wantNoParse(t, "{"+s+": X}", api.ErrWord, 1)
		}
		wantNoParse(t, "{a: X, "+s+": X}", api.ErrWord, 7)
	}
}

// P6.1: at the end ErrEnd, wherever it comes, with the position of the end.
func TestEnd(t *testing.T) {
	for _, s := range []string{"", "(", "((", "{", "{a", "{a:", "X ->", "X -> (", "(X", "(X ->", "(X -> X", "{a: X", "{a: X,", "{a: X, b", "{a: X, b:", "{a: X -> {b: (X", "({}", "{a: {}", "{a: (X)"} {
		wantNoParse(t, s, api.ErrEnd, len(s))
		wantNoParse(t, " "+s+" \n", api.ErrEnd, len(s)+3)
		wantNoParse(t, s+"; X) }", api.ErrEnd, len(s)+6)
	}
}

// P6.2: the lexer's error comes first, wherever it is; what Read finds comes before what is left.
func TestOrder(t *testing.T) {
	wantNoParse(t, "int #", api.ErrChar, 4)
	wantNoParse(t, "-> 01", api.ErrForm, 3)
	wantNoParse(t, "{a: Int, a: xY}", api.ErrName, 12)
	wantNoParse(t, "Int) Abcdefghi", api.ErrLong, 5)
	wantNoParse(t, `( "`, api.ErrEnd, 3)
	wantNoParse(t, strings.Repeat("(", 70)+"&", api.ErrChar, 70)
	wantNoParse(t, "{a: Int, a: Int})", api.ErrTwice, 9)
	wantNoParse(t, "X X X", api.ErrWord, 2)
	for _, s := range []string{"\x00", "\xff", "Int\x80", "é", "Int -> \"\n\""} {
		if _, err := tyread.Parse(s); !fault.Is(err, api.ErrChar) {
			t.Errorf("Parse(%q): %d", s, fault.Code(err))
		}
	}
	wantParse(t, "Int"+strings.Repeat(" ", api.MaxSource-3), integer)
	wantNoParse(t, "Int"+strings.Repeat(" ", api.MaxSource-2), api.ErrLong, 0)
	wantNoParse(t, "#"+strings.Repeat(" ", api.MaxSource), api.ErrLong, 0)
}

// P6.1: Read stops where the type does, and the token there may be any.
func TestReadStops(t *testing.T) {
	for _, s := range []string{"", "END", "Int", "x", "let", "?", ")", "}", "{", "(", ",", ":", "=", "=>", "]", "<", "-", "9", `"a"`} {
		wantRead(t, tokens("X "+s), 0, 1, variable("X"), 1)
		wantRead(t, tokens("( X ) "+s), 0, 1, variable("X"), 3)
		wantRead(t, tokens("{ } "+s), 0, 1, empty, 2)
		wantRead(t, tokens("? -> Int "+s), 0, 1, fun(unknown, integer), 3)
		wantRead(t, tokens("{ b : X , a : ( Top ) } -> { } "+s), 0, 1, fun(rec("a b", top, variable("X")), empty), 14)
	}
}

// P6.1: Read from each index of a list; beyond it on either side there is an end at 0.
func TestReadIndex(t *testing.T) {
	l := tokens("( X -> { a : ? } ) END Bool")
	wantRead(t, l, 0, 1, fun(variable("X"), rec("a", unknown)), 9)
	wantRead(t, l, 1, 1, fun(variable("X"), rec("a", unknown)), 8)
	wantRead(t, l, 3, 1, rec("a", unknown), 8)
	wantRead(t, l, 6, 1, unknown, 7)
	wantRead(t, l, 10, 1, boolean, 11)
	for _, i := range []int{2, 4, 5, 7, 8} {
		wantNoRead(t, l, i, 1, api.ErrWord, pos(i))
	}
	wantNoRead(t, l, 9, 1, api.ErrEnd, pos(9))
	for _, i := range []int{11, 12, 100, math.MaxInt, -1, -2, -11, math.MinInt} {
		wantNoRead(t, l, i, 1, api.ErrEnd, 0)
		wantNoRead(t, l, i, 64, api.ErrEnd, 0)
		wantNoRead(t, l, i, 65, api.ErrDeep, 0)
		wantNoRead(t, nil, i, 1, api.ErrEnd, 0)
		wantNoSign(t, l, i, "(", api.ErrEnd, 0)
		wantNoSign(t, l, i, "", api.ErrEnd, 0)
		wantNoSign(t, nil, i, ",", api.ErrEnd, 0)
	}
	wantNoRead(t, nil, 0, 1, api.ErrEnd, 0)
	wantNoRead(t, []api.Token{}, 0, 1, api.ErrEnd, 0)
}

// P6.1: a list that breaks off counts as one that ends at 0; an end within the list has a position of its own.
func TestReadWithoutEnd(t *testing.T) {
	for _, s := range []string{"(", "{", "{ a", "{ a :", "X ->", "( X", "{ a : X", "{ a : X ,", "( X ->", "{ a : ( X )"} {
		n := len(strings.Fields(s))
		wantNoRead(t, tokens(s), 0, 1, api.ErrEnd, 0)
		wantNoRead(t, tokens("END "+s), 1, 1, api.ErrEnd, 0)
		wantNoRead(t, tokens(s+" END"), 0, 1, api.ErrEnd, pos(n))
		wantNoRead(t, tokens(s+" END X ) }"), 0, 1, api.ErrEnd, pos(n))
	}
}

// P1, P6.1: tokens that no lexer makes have the words of other kinds, or words of no kind; their positions are any.
func TestReadMadeTokens(t *testing.T) {
	for _, x := range []api.Token{
		{K: api.TkType, S: "x"}, {K: api.TkType}, {K: api.TkType, S: "Abcdefghi"}, {K: api.TkType, S: "Int "}, {K: api.TkType, S: "?"}, {K: api.TkType, S: "let"}, {K: api.TkType, S: "\xff"}, {K: api.TkType, S: "X\x00"},
		{K: api.TkName, S: "Int"}, {K: api.TkName, S: "X"}, {K: api.TkSign, S: "Int"}, {K: api.TkSign, S: "X"}, {K: api.TkSign}, {K: api.TkSign, S: "foo"}, {K: api.TkSign, S: "??"}, {K: api.TkSign, S: "(("},
		{K: api.TkInt, S: "Int"}, {K: api.TkInt, S: "?"}, {K: api.TkStr, S: "X"}, {K: api.TkStr, S: "("}, {K: 6, S: "X"}, {K: -1, S: "?"}, {K: 99}, {K: math.MinInt, S: "{"}, {K: math.MaxInt, S: "Int"},
	} {
		for _, at := range []int{0, 7, -1, math.MinInt, math.MaxInt} {
			x.At = at
			wantNoRead(t, []api.Token{x}, 0, 1, api.ErrWord, at)
			wantNoRead(t, append(tokens("{ a :"), x), 0, 1, api.ErrWord, at)
			wantNoRead(t, []api.Token{x}, 0, 65, api.ErrDeep, at)
			wantNoSign(t, []api.Token{x}, 0, "?", api.ErrWord, at)
			if x.K != api.TkSign {
				wantNoSign(t, []api.Token{x}, 0, x.S, api.ErrWord, at)
			}
		}
	}
	for _, x := range []api.Token{
		{K: api.TkName}, {K: api.TkName, S: "A"}, {K: api.TkName, S: "aB"}, {K: api.TkName, S: "abcdefghi"}, {K: api.TkName, S: "let"}, {K: api.TkName, S: "true"}, {K: api.TkName, S: "1"}, {K: api.TkName, S: "a "},
		{K: api.TkType, S: "a"}, {K: api.TkStr, S: "a"}, {K: api.TkSign, S: "a"}, {K: api.TkInt, S: "a"}, {K: 6, S: "a"}, {K: -1, S: "a"}, {K: api.TkStr, S: "}"},
	} {
		x.At = -4
		wantNoRead(t, append(append(tokens("{"), x), tokens(": X }")...), 0, 1, api.ErrWord, -4)
		wantNoRead(t, append(append(tokens("{ b : X ,"), x), tokens(": X }")...), 0, 1, api.ErrWord, -4)
	}
	for _, s := range []string{"?", "X", "Int", "(", ")", "let"} {
		end := []api.Token{{K: api.TkEnd, S: s, N: 3, At: 9}}
		wantNoRead(t, end, 0, 1, api.ErrEnd, 9)
		wantNoSign(t, end, 0, s, api.ErrEnd, 9)
	}
	same := []api.Token{{K: api.TkSign, S: "{", At: 4}, {K: api.TkName, S: "a", At: 4}, {K: api.TkSign, S: ":", At: 4}, {K: api.TkType, S: "X", At: 4}, {K: api.TkSign, S: "}", At: 4}}
	wantRead(t, same, 0, 1, rec("a", variable("X")), 5)
}

// Want: each operator is itself alone.
func TestWant(t *testing.T) {
	signs := strings.Fields("=> -> <: ++ == ( ) { } [ ] , : . = ? + - * / <")
	l := tokens(strings.Join(signs, " "))
	for i := range signs {
		for j, s := range signs {
			if i == j {
				wantSign(t, l, i, s)
			} else {
				wantNoSign(t, l, i, s, api.ErrWord, pos(i))
			}
		}
		wantNoSign(t, l, i, "", api.ErrWord, pos(i))
		wantNoSign(t, l, i, signs[i]+" ", api.ErrWord, pos(i))
	}
	l = tokens(`x let X Int 7 "a" END`)
	for i, x := range l {
		code := api.ErrWord
		if i == 6 {
			code = api.ErrEnd
		}
		wantNoSign(t, l, i, x.S, code, pos(i))
		wantNoSign(t, l, i, ",", code, pos(i))
		wantNoSign(t, l, i, "", code, pos(i))
	}
}

// nest writes types within one another: in each level open and shut stand around the one within.
type nest struct{ open, inner, shut string }

func (x nest) text(n int) string {
	return strings.Repeat(x.open, n) + x.inner + strings.Repeat(x.shut, n)
}

// P6.1: the greatest depth, in each way of nesting, and one more: the error is where the type begins that is too deep.
func TestDepth(t *testing.T) {
	for _, x := range []nest{{"(", "X", ")"}, {"X->", "?", ""}, {"{a:", "{}", "}"}, {"(", "Int", ")->X"}, {"{}->", "X", ""}, {"{b:", "X", ",a:X}"}} {
		if _, err := tyread.Parse(x.text(63)); err != nil {
			t.Errorf("%q: error %d at %d", x.text(63), fault.Code(err), fault.At(err))
		}
		for _, n := range []int{64, 65, 100} {
			wantNoParse(t, x.text(n), api.ErrDeep, len(x.open)*64)
		}
		// The innermost type is as deep as it may be, and has no type within it.
		for inner, at := range map[string]int{"(X)": 1, "X->X": 3, "{a:X}": 3, "{} -> X": 6, "((": 1, "{a:": 3, "{a:{": 3} {
			x.inner = inner
			wantNoParse(t, x.text(63), api.ErrDeep, len(x.open)*63+at)
		}
	}
	// The type of a field is one deeper than that with which the record begins, whichever field it is; a param is no deeper.
	wantBack(t, chain(rec("a", variable("X")), 63))
	wantNoParse(t, tyfmt.Show(chain(rec("a", variable("X")), 64)), api.ErrDeep, 63*10+4)
	wantNoParse(t, tyfmt.Show(chain(empty, 64)), api.ErrDeep, 64*6)
	wantNoParse(t, strings.Repeat("{a:X,b:", 64), api.ErrDeep, 63*7+3)
	wantNoParse(t, strings.Repeat("{a:{},b:", 63)+"(X->X)->X", api.ErrDeep, 63*8+1)
}

// chain is a function of n params, all of that type, one after another.
func chain(param api.Ty, n int) api.Ty {
	a := unknown
	for range n {
		a = fun(param, a)
	}
	return a
}

// P6.1: at the place of a type that is too deep the token may be any; before that place the others come first.
func TestDepthAnyToken(t *testing.T) {
	for _, open := range []string{"(", "X->", "{a:"} {
		many, less := strings.Repeat(open, 64), strings.Repeat(open, 63)
		wantNoParse(t, many, api.ErrDeep, len(many))
		for _, s := range []string{"X", "Int", "?", "(", ")", "{", "}", "->", ",", ":", "=", "x", "let", "7", `"a"`, "]"} {
			wantNoParse(t, many+s, api.ErrDeep, len(many))
			wantNoParse(t, many+" "+s+" )", api.ErrDeep, len(many)+1)
		}
		wantNoParse(t, less, api.ErrEnd, len(less))
		wantNoParse(t, less+"let", api.ErrWord, len(less))
		wantNoParse(t, less+"{7:X}", api.ErrWord, len(less)+1)
		wantNoParse(t, less+"{a X}", api.ErrWord, len(less)+3)
	}
	wantParse(t, strings.Repeat("(", 63)+"{}"+strings.Repeat(")", 63), empty)
	wantNoParse(t, "{a:X,a:"+strings.Repeat("(", 70), api.ErrTwice, 5)
	wantNoParse(t, strings.Repeat("(", 70)+"7", api.ErrDeep, 64)
}

// P6.1: the depth of the first type is given, and may be any number.
func TestReadDepth(t *testing.T) {
	deep := tokens(strings.Repeat("( ", 70) + "X" + strings.Repeat(" )", 70))
	for _, d := range []int{1, 2, 10, 63, 64} {
		n := 64 - d
		wantRead(t, deep, 70-n, d, variable("X"), 71+n)
		wantNoRead(t, deep, 69-n, d, api.ErrDeep, pos(70))
		wantNoRead(t, deep, 0, d, api.ErrDeep, pos(65-d))
	}
	for _, d := range []int{65, 66, 1000, math.MaxInt - 1, math.MaxInt} {
		for i := range deep {
			wantNoRead(t, deep, i, d, api.ErrDeep, pos(i))
		}
		wantNoRead(t, tokens("END"), 0, d, api.ErrDeep, pos(0))
	}
	wantRead(t, deep, 0, -6, variable("X"), 141)
	wantNoRead(t, deep, 0, -5, api.ErrDeep, pos(70))
	wantRead(t, deep, 8, 2, variable("X"), 133)
	for _, d := range []int{-7, -1000, math.MinInt, math.MinInt + 1} {
		wantRead(t, deep, 0, d, variable("X"), 141)
	}
	wantRead(t, tokens("X -> X"), 0, 63, fun(variable("X"), variable("X")), 3)
	wantNoRead(t, tokens("X -> X"), 0, 64, api.ErrDeep, pos(2))
	wantRead(t, tokens("{ a : { b : X } }"), 0, 62, rec("a", rec("b", variable("X"))), 9)
	wantNoRead(t, tokens("{ a : { b : X } }"), 0, 63, api.ErrDeep, pos(6))
	wantNoRead(t, tokens("{ a : { b : X } }"), 0, 64, api.ErrDeep, pos(3))
	wantRead(t, tokens("{ } , X"), 0, 64, empty, 2)
	wantRead(t, tokens("( X ) -> X"), 0, 63, fun(variable("X"), variable("X")), 5)
	wantNoRead(t, tokens("( X ) -> X"), 0, 64, api.ErrDeep, pos(1))
}

// machine is the grammar once more, as a list of what is still to come, from its last element on, with the depths of the
// types within which the reading is. It knows no types: it writes down what is finished, with each field's text for itself.
type machine struct {
	l      []api.Token
	at     int
	todo   []string
	deep   []int
	done   []string
	fields []map[string]string
	labels []string
	code   api.Errno
	pos    int
}

func (m *machine) token() api.Token {
	if m.at >= 0 && m.at < len(m.l) {
		return m.l[m.at]
	}
	return api.Token{K: api.TkEnd, At: 0}
}

func (m *machine) wrong() {
	m.code, m.pos = api.ErrWord, m.token().At
	if m.token().K == api.TkEnd {
		m.code = api.ErrEnd
	}
}

// push adds what is to come, the first of it first.
func (m *machine) push(todo ...string) {
	for i := range todo {
		m.todo = append(m.todo, todo[len(todo)-1-i])
	}
}

func (m *machine) pop(l *[]string) string {
	s := (*l)[len(*l)-1]
	*l = (*l)[:len(*l)-1]
	return s
}

var (
	lowers   = regexp.MustCompile(`^[a-z][a-z0-9]{0,7}\z`)
	uppers   = regexp.MustCompile(`^[A-Z][a-zA-Z0-9]{0,7}\z`)
	reserved = regexp.MustCompile(`^(let|in|if|then|else|fn|call|def|true|false)\z`)
)

func (m *machine) step() {
	x := m.token()
	sign := ""
	if x.K == api.TkSign {
		sign = x.S
	}
	switch what := m.pop(&m.todo); what {
	case "type":
		if m.deep[len(m.deep)-1] > 64 {
			m.code, m.pos = api.ErrDeep, x.At
			return
		}
		m.push("simple", "rest")
	case "simple":
		m.simple(x, sign)
	case "rest":
		if sign == "->" {
			m.at++
			m.push("deeper", "type", "back", "function")
		}
	case "deeper":
		m.deep = append(m.deep, m.deep[len(m.deep)-1]+1)
	case "back":
		m.deep = m.deep[:len(m.deep)-1]
	case "function":
		b, a := m.pop(&m.done), m.pop(&m.done)
		m.done = append(m.done, "("+a+" to "+b+")")
	case "first":
		if sign == "}" {
			m.push("}", "record")
		} else {
			m.push("label", ":", "deeper", "type", "back", "field", "more")
		}
	case "more":
		if sign == "," {
			m.push(",", "label", ":", "deeper", "type", "back", "field", "more")
		} else {
			m.push("}", "record")
		}
	case "label":
		m.label(x)
	case "field":
		m.fields[len(m.fields)-1][m.pop(&m.labels)] = m.pop(&m.done)
	case "record":
		m.record()
	default:
		if sign != what {
			m.wrong()
			return
		}
		m.at++
	}
}

func (m *machine) simple(x api.Token, sign string) {
	m.at++
	switch {
	case sign == "?" || x.K == api.TkType && uppers.MatchString(x.S):
		m.done = append(m.done, x.S)
	case sign == "(":
		m.push("deeper", "type", "back", ")")
	case sign == "{":
		m.fields = append(m.fields, map[string]string{})
		m.push("first")
	default:
		m.at--
		m.wrong()
	}
}

func (m *machine) label(x api.Token) {
	if x.K != api.TkName || !lowers.MatchString(x.S) || reserved.MatchString(x.S) {
		m.wrong()
		return
	}
	if _, ok := m.fields[len(m.fields)-1][x.S]; ok {
		m.code, m.pos = api.ErrTwice, x.At
		return
	}
	m.labels = append(m.labels, x.S)
	m.at++
}

func (m *machine) record() {
	fields := m.fields[len(m.fields)-1]
	m.fields = m.fields[:len(m.fields)-1]
	var l []string
	for s, a := range fields {
		l = append(l, s+" is "+a)
	}
	sort.Strings(l)
	m.done = append(m.done, "{"+strings.Join(l, " and ")+"}")
}

// show writes a type as the machine does.
func show(a api.Ty) string {
	words := map[int]string{1: "Int", 2: "Bool", 3: "String", 4: "Top", 5: "?", 6: a.Name}
	switch a.K {
	case 7:
		return "(" + show(a.Args[0]) + " to " + show(a.Args[1]) + ")"
	case 8:
		var l []string
		for i, s := range a.Labels {
			l = append(l, s+" is "+show(a.Args[i]))
		}
		sort.Strings(l)
		return "{" + strings.Join(l, " and ") + "}"
	}
	return words[a.K]
}

// wantSlow holds Read of these tokens against the machine.
func wantSlow(t *testing.T, l []api.Token, at, deep int) {
	t.Helper()
	if at < 0 {
		at = len(l)
	}
	m := machine{l: l, at: at, deep: []int{deep}, todo: []string{"type"}}
	for len(m.todo) > 0 && m.code == 0 {
		m.step()
	}
	if m.code != 0 {
		wantNoRead(t, l, at, deep, m.code, m.pos)
		return
	}
	got, after, err := tyread.Read(l, at, deep)
	if err != nil || after != m.at || !ty.Right(got) || show(got) != m.done[0] {
		t.Errorf("Read(%s, %d, %d) = %s, %d, %v, want %.300s, %d", short(l), at, deep, short(got), after, err, m.done[0], m.at)
	}
}

// P6.1: all short lists of a few tokens, at depths of which some do not suffice.
func TestAllShort(t *testing.T) {
	parts := tokens("? X -> ( ) { } : , a b in END")
	l := make([]api.Token, 0, 8)
	var extend func()
	extend = func() {
		wantSlow(t, l, 0, 1)
		wantSlow(t, l, 0, 64-len(l)%3)
		if len(l) == 5 {
			return
		}
		for _, x := range parts {
			x.At = pos(len(l))
			l = append(l, x)
			extend()
			l = l[:len(l)-1]
		}
	}
	extend()
}

// write writes a valid type without seals as tokens: with parentheses here and there, and with fields in any order.
func write(r *rand.Rand, a api.Ty) string {
	s := tyfmt.Show(a)
	switch a.K {
	case api.TFun:
		s = write(r, a.Args[0]) + " -> " + write(r, a.Args[1])
		if a.Args[0].K == api.TFun {
			s = "( " + write(r, a.Args[0]) + " ) -> " + write(r, a.Args[1])
		}
	case api.TRec:
		var l []string
		for _, i := range r.Perm(len(a.Args)) {
			l = append(l, a.Labels[i]+" : "+write(r, a.Args[i]))
		}
		s = "{ " + strings.Join(l, " , ") + " }"
	}
	if r.Intn(5) == 0 {
		s = "( " + s + " )"
	}
	return s
}

// random is a valid type without seals of at most that depth.
func random(r *rand.Rand, deep int) api.Ty {
	if deep > 1 && r.Intn(4) > 0 {
		if r.Intn(2) == 0 {
			return fun(random(r, deep-1), random(r, deep-1))
		}
		a := api.Ty{K: api.TRec}
		for _, s := range []string{"a", "a1", "b", "c1"} {
			if r.Intn(2) == 0 {
				a.Labels, a.Args = append(a.Labels, s), append(a.Args, random(r, deep-1))
			}
		}
		return a
	}
	return []api.Ty{integer, boolean, str, top, unknown, variable("X"), variable("I"), variable("Intx"), empty}[r.Intn(9)]
}

// P6.1: the tokens of random types, and the same with a token taken out, put in or exchanged.
func TestRandomTokens(t *testing.T) {
	r := rand.New(rand.NewSource(7))
	parts := tokens(`? X Int -> ( ) { } : , a b a1 in fn END 7 "X" = =>`)
	for range 20000 {
		l := tokens(write(r, random(r, 1+r.Intn(6))))
		for range r.Intn(3) {
			i := r.Intn(len(l))
			switch x := parts[r.Intn(len(parts))]; r.Intn(4) {
			case 0:
				l = append(l[:i:i], l[i+1:]...)
			case 1:
				l = append(append(l[:i:i], x), l[i:]...)
			case 2:
				l = append(l[:i:i], append(l[r.Intn(i+1):], x)...)
			default:
				l[i] = x
			}
			if len(l) == 0 {
				break
			}
		}
		for i := range l {
			l[i].At = r.Intn(100) - 10
		}
		wantSlow(t, l, r.Intn(len(l)+3)/2-1, 1)
		wantSlow(t, l, 0, 58+r.Intn(8))
	}
}

// space puts a gap, or none where none is needed, between the tokens of a text in which blanks stand between all of them.
func space(r *rand.Rand, s string) string {
	words := strings.Fields(s)
	gaps := []string{" ", "\n", "\t\r", "  ", ";\n", " ; Int -> ) \"\n"}
	out := words[0]
	letter := regexp.MustCompile(`^\w`)
	for i, w := range words[1:] {
		tight := !letter.MatchString(w) || !letter.MatchString(words[i])
		if !tight || r.Intn(2) == 0 {
			out += gaps[r.Intn(len(gaps))]
		}
		out += w
	}
	return out
}

// wantBack holds the text of a type against the type that it is parsed as.
func wantBack(t *testing.T, a api.Ty) {
	t.Helper()
	wantParse(t, tyfmt.Show(a), a)
}

// P6.2, P6.3: random types of some depth, there and back, and with other gaps, parentheses and orders.
func TestThereAndBack(t *testing.T) {
	r := rand.New(rand.NewSource(11))
	for range 10000 {
		a := random(r, 1+r.Intn(7))
		wantBack(t, a)
		wantParse(t, space(r, write(r, a)), a)
	}
}

// small lists all valid types of at most that depth, made of a few parts.
func small(deep int) []api.Ty {
	l := []api.Ty{integer, top, unknown, variable("X"), empty}
	if deep == 1 {
		return l
	}
	less := small(deep - 1)
	for i, a := range less {
		l = append(l, rec("a", a), rec("b", a))
		for j, b := range less {
			if deep < 3 || (i+j)%3 == 0 {
				l = append(l, fun(a, b), rec("a b", a, b), rec("a c", a, b))
			}
		}
	}
	return l
}

// P6.3: many small types, all of them.
func TestThereAndBackSmall(t *testing.T) {
	l := small(3)
	for _, a := range l {
		wantBack(t, a)
	}
	if len(l) < 8000 {
		t.Errorf("only %d types", len(l))
	}
}

// spine is a type of at least that depth, along a way that turns at random.
func spine(r *rand.Rand, deep int) api.Ty {
	a := random(r, 1)
	for ty.Depth(a) < deep {
		b := random(r, min(ty.Depth(a), 2))
		a = []api.Ty{fun(a, b), fun(b, a), rec("a", a), rec("a b", a, b), rec("b c d", b, b, a)}[r.Intn(5)]
	}
	return a
}

// parsed is the depth to which the text of a type is parsed. It is less than that of the type where a record is a param,
// which is a simple type and begins no type of its own.
func parsed(a api.Ty) int {
	n := 0
	for i, x := range a.Args {
		if a.K == api.TFun && i == 0 && x.K != api.TFun {
			n = max(n, parsed(x)-1)
		} else {
			n = max(n, parsed(x))
		}
	}
	return n + 1
}

// P6.3: types of the greatest depth are parsed as themselves; beyond it they are as far as their text is not too deep.
func TestThereAndBackDeep(t *testing.T) {
	r := rand.New(rand.NewSource(13))
	deeper := 0
	for range 1000 {
		a := spine(r, api.MaxNest)
		if ty.Depth(a) != api.MaxNest {
			t.Fatalf("depth %d", ty.Depth(a))
		}
		wantBack(t, a)
		for _, b := range []api.Ty{fun(a, top), fun(top, a), rec("a", a), fun(fun(a, top), top), spine(r, api.MaxNest+4)} {
			if parsed(b) <= api.MaxNest {
				wantBack(t, b)
				deeper++
			} else if got, err := tyread.Parse(tyfmt.Show(b)); !fault.Is(err, api.ErrDeep) || !ty.Same(got, api.Ty{}) {
				t.Errorf("depth %d: %s, %v", ty.Depth(b), short(got), err)
			}
		}
	}
	if deeper == 0 || deeper == 5000 {
		t.Errorf("%d of 5000 types have texts that are not too deep", deeper)
	}
}

// P6.3: a seal has a text, but no source; neither has a type that is not valid.
func TestNotBack(t *testing.T) {
	wantNoParse(t, tyfmt.Show(api.Ty{K: api.TSeal, N: 7}), api.ErrChar, 0)
	wantNoParse(t, tyfmt.Show(fun(integer, api.Ty{K: api.TSeal})), api.ErrChar, 7)
	wantNoParse(t, tyfmt.Show(api.Ty{}), api.ErrEnd, 0)
}

// labels is n labels, each greater than the one before.
func labels(n int) []string {
	l := make([]string, n)
	for i := range l {
		l[i] = fmt.Sprintf("a%06d", i)
	}
	return l
}

// P6.1: a record of many fields, in an order that is not theirs; then one with a label that occurs twice.
func TestWide(t *testing.T) {
	const n = 100003
	names := labels(n)
	want := api.Ty{K: api.TRec, Labels: names, Args: make([]api.Ty, n)}
	l := []api.Token{{K: api.TkSign, S: "{"}}
	for i := range n {
		j := i * 7919 % n
		a := []api.Ty{integer, unknown, top}[j%3]
		want.Args[j] = a
		l = append(l, api.Token{K: api.TkName, S: names[j], At: i}, api.Token{K: api.TkSign, S: ":"})
		l = append(l, all(t, tyfmt.Show(a))[0], api.Token{K: api.TkSign, S: ","})
	}
	l[len(l)-1].S = "}"
	wantRead(t, l, 0, 1, want, 4*n+1)
	l[len(l)-1].S = ","
	l = append(l, api.Token{K: api.TkName, S: names[5], At: n})
	wantNoRead(t, l, 0, 1, api.ErrTwice, n)
}

// P6.2: there is no limit of nodes but the length of the source.
func TestLongSource(t *testing.T) {
	var parts []string
	want := api.Ty{K: api.TRec}
	for _, s := range labels(4000) {
		parts = append(parts, s+": ?->?")
		want.Labels, want.Args = append(want.Labels, s), append(want.Args, fun(unknown, unknown))
	}
	wantParse(t, "{"+strings.Join(parts, ",")+"}", want)
}

// P1: with a depth that is low enough, types are nested as deeply as may be, with and without an error at the innermost place.
func TestReadDeep(t *testing.T) {
	const n = 1<<16 - 1
	for _, x := range []struct {
		open, shut string
		wrap       func(a api.Ty) api.Ty
	}{
		{"(", ")", func(a api.Ty) api.Ty { return a }},
		{"X ->", "", func(a api.Ty) api.Ty { return fun(variable("X"), a) }},
		{"(", ") -> X", func(a api.Ty) api.Ty { return fun(a, variable("X")) }},
		{"{ a :", "}", func(a api.Ty) api.Ty { return rec("a", a) }},
	} {
		want := unknown
		for range n {
			want = x.wrap(want)
		}
		open, shut := slices.Repeat(tokens(x.open), n), slices.Repeat(tokens(x.shut), n)
		l := slices.Concat(open, []api.Token{{K: api.TkSign, S: "?", At: 7}}, shut)
		wantRead(t, l, 0, math.MinInt, want, len(l))
		wantRead(t, l, 0, 64-n, want, len(l))
		wantNoRead(t, l, 0, 65-n, api.ErrDeep, 7)
		wantNoRead(t, open, 0, math.MinInt, api.ErrEnd, 0)
		wantNoRead(t, append(open, api.Token{K: api.TkName, S: "x", At: 9}), 0, 64-n, api.ErrWord, 9)
	}
}

// P4, P5: the tokens stay as they are, and a second call answers the same, whatever was answered between.
func TestUnchanged(t *testing.T) {
	fresh := func() []api.Token { return tokens("( { b : X , a : ? -> Top } ) -> { a : Int , a : Int } END") }
	l := fresh()
	for range 2 {
		wantRead(t, l, 1, 1, rec("a b", fun(unknown, top), variable("X")), 12)
		wantNoRead(t, l, 0, 1, api.ErrTwice, pos(19))
		wantNoRead(t, l, 0, 64, api.ErrDeep, pos(1))
		wantSign(t, l, 13, "->")
	}
	if !reflect.DeepEqual(l, fresh()) {
		t.Errorf("changed to %v", l)
	}
	a, _, _ := tyread.Read(l, 1, 1)
	a.Labels[0], a.Args[0] = "z", integer
	wantRead(t, l, 1, 1, rec("a b", fun(unknown, top), variable("X")), 12)
}
