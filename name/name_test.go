package name_test

import (
	"strings"
	"testing"

	"limbeck/api"
	"limbeck/name"
)

var (
	reservedWords = []string{"let", "in", "if", "then", "else", "fn", "call", "def", "true", "false"}
	typeWords     = []string{"Int", "Bool", "String", "Top"}
)

func wantKind(t *testing.T, s string, want int) {
	t.Helper()
	if got := name.Kind(s); got != want {
		t.Errorf("Kind(%q) = %d, want %d", s, got, want)
	}
	if got := name.Fine(s); got != (want == 1) {
		t.Errorf("Fine(%q) = %v, though its kind is %d", s, got, want)
	}
	if got := name.Var(s); got != (want == 2) {
		t.Errorf("Var(%q) = %v, though its kind is %d", s, got, want)
	}
}

// P1.1: the document's examples.
func TestKindExamples(t *testing.T) {
	for s, k := range map[string]int{"x1": 1, "Xy1": 2, "let": 3, "Int": 4, "xY": 0, "1": 0, "": 0, "abcdefghi": 0} {
		wantKind(t, s, k)
	}
}

// P1.1: each word of the two lists, and what differs from it a little.
func TestKindWords(t *testing.T) {
	for _, s := range reservedWords {
		wantKind(t, s, 3)
		wantKind(t, s+"1", 1)
		wantKind(t, "a"+s, 1)
		wantKind(t, s[:len(s)-1]+"q", 1)
		wantKind(t, strings.ToUpper(s), 2)
		wantKind(t, strings.ToUpper(s[:1])+s[1:], 2)
		wantKind(t, " "+s, 0)
		wantKind(t, s+" ", 0)
		wantKind(t, s+"\x00", 0)
	}
	for _, s := range typeWords {
		wantKind(t, s, 4)
		wantKind(t, s+"1", 2)
		wantKind(t, s+"X", 2)
		wantKind(t, "A"+s, 2)
		wantKind(t, strings.ToUpper(s), 2)
		wantKind(t, strings.ToLower(s), 1)
		wantKind(t, s[:len(s)-1], 2)
		wantKind(t, " "+s, 0)
		wantKind(t, s+"\n", 0)
	}
}

// P1.1: the limit itself is allowed, in both kinds; a byte more is not.
func TestKindLength(t *testing.T) {
	for n := 1; n <= 3*api.MaxName; n++ {
		plain, variable := 1, 2
		if n > api.MaxName {
			plain, variable = 0, 0
		}
		wantKind(t, strings.Repeat("a", n), plain)
		wantKind(t, "z"+strings.Repeat("9", n-1), plain)
		wantKind(t, strings.Repeat("Z", n), variable)
		wantKind(t, "A"+strings.Repeat("b", n-1), variable)
	}
	wantKind(t, strings.Repeat("x", 1<<20), 0)
	wantKind(t, "letletletlet", 0)
}

// slowKind is the definition of the document, read byte by byte.
func slowKind(s string) int {
	for _, w := range reservedWords {
		if s == w {
			return 3
		}
	}
	for _, w := range typeWords {
		if s == w {
			return 4
		}
	}
	const small, capital, digits = "abcdefghijklmnopqrstuvwxyz", "ABCDEFGHIJKLMNOPQRSTUVWXYZ", "0123456789"
	only := func(s, set string) bool {
		for i := 0; i < len(s); i++ {
			if strings.IndexByte(set, s[i]) < 0 {
				return false
			}
		}
		return true
	}
	if len(s) < 1 || len(s) > 8 {
		return 0
	}
	if only(s[:1], small) && only(s[1:], small+digits) {
		return 1
	}
	if only(s[:1], capital) && only(s[1:], small+capital+digits) {
		return 2
	}
	return 0
}

// P1.1: every byte alone, every two bytes, and every byte as the last of three and of eight.
func TestKindBytes(t *testing.T) {
	for a := 0; a < 256; a++ {
		one := string([]byte{byte(a)})
		wantKind(t, one, slowKind(one))
		for _, front := range []string{"a1", "A1", "aB", "Ab", "11", "abcdefg", "ABCDEFG", "X\xc3"} {
			wantKind(t, front+one, slowKind(front+one))
		}
		for b := 0; b < 256; b++ {
			two := string([]byte{byte(a), byte(b)})
			wantKind(t, two, slowKind(two))
		}
	}
}

// P1.1: wrong inputs: letters and digits that are not ASCII, and bytes that are not UTF-8.
func TestKindForeign(t *testing.T) {
	for _, s := range []string{"\u00e9", "a\u00e9", "\u00c9", "A\u00e9", "x\u0663", "\u017f", "\u212a", "X\u212a", "\uff41", "a\xff", "A\xff", "\xff", "\xc3", "a\x80b", "x\xed\xa0\x80", "a\U0001D41A", "x\x00", "\ufffd", "_", "a_b", "a-b", "a.b", "a\tb", "?", "X'"} {
		wantKind(t, s, 0)
	}
}

// P1.1: every string of up to three letters of an alphabet in which words of all kinds can be written.
func TestKindShort(t *testing.T) {
	const letters = "aeflnotzAIFTZ019 _\x80"
	var walk func(s string)
	walk = func(s string) {
		wantKind(t, s, slowKind(s))
		if len(s) == 3 {
			return
		}
		for i := 0; i < len(letters); i++ {
			walk(s + letters[i:i+1])
		}
	}
	walk("")
}

// P1.2: ordinary lists, the edges, and lists that are wrong in one place.
func TestRising(t *testing.T) {
	for _, l := range [][]string{nil, {}, {"a"}, {"a", "b"}, {"a", "a0", "a1", "aa", "b"}, {"a9", "aa"}, {"x", "x1", "x10", "x2"}, {"abcdefgh", "b"}, {"lets", "z"}} {
		if !name.Rising(l) {
			t.Errorf("Rising(%q) = false", l)
		}
	}
	for _, l := range [][]string{
		{"b", "a"}, {"a", "a"}, {"X"}, {""}, {"let"}, {"Int"}, {"1"}, {"abcdefghi"},
		{"X", "a"}, {"X", "Y"}, {"", "a"}, {"1", "a"}, {"a", "X"}, {"a", ""}, {"a", "in"}, {"a", "b c"}, {"a", "\xff"},
		{"a", "b", "b"}, {"a", "c", "b"}, {"a", "a", "b"}, {"b", "a", "c"}, {"a", "b", "a"}, {"a", "b", "let", "z"},
		{"aa", "a9"}, {"x2", "x10"}, {"ab", "a"}, {"a", "b", "bB"},
	} {
		if name.Rising(l) {
			t.Errorf("Rising(%q) = true", l)
		}
	}
}

// P1.2 and the call Fresh: the examples, the edges, and elements that are no names.
func TestFresh(t *testing.T) {
	for _, c := range []struct {
		l    []string
		s    string
		want bool
	}{
		{[]string{"a"}, "a", false}, {[]string{"a"}, "b", true},
		{nil, "a", true}, {[]string{}, "", true}, {nil, "", true},
		{[]string{""}, "", false}, {[]string{"a"}, "", true}, {[]string{""}, "a", true},
		{[]string{"a", "b", "c"}, "a", false}, {[]string{"a", "b", "c"}, "b", false}, {[]string{"a", "b", "c"}, "c", false},
		{[]string{"c", "a", "c"}, "c", false}, {[]string{"a", "b", "c"}, "d", true},
		{[]string{"ab"}, "a", true}, {[]string{"a"}, "ab", true}, {[]string{"A"}, "a", true},
		{[]string{"let", "X", "\xff"}, "X", false}, {[]string{"let", "X", "\xff"}, "\xff", false}, {[]string{"\xfe"}, "\xff", true},
	} {
		if got := name.Fresh(c.l, c.s); got != c.want {
			t.Errorf("Fresh(%q, %q) = %v", c.l, c.s, got)
		}
	}
}

// P1.3: Fine and Var never hold both, and hold for no reserved word and no type word.
func TestOneKind(t *testing.T) {
	all := append(append([]string{"", "a", "A", "aB", "Ab", "x1", "X1", "1x", "abcdefgh", "ABCDEFGH", "abcdefghi", "\xff"}, reservedWords...), typeWords...)
	for _, s := range all {
		if name.Fine(s) && name.Var(s) {
			t.Errorf("%q is a name and a type variable", s)
		}
	}
	for _, s := range append(append([]string{}, reservedWords...), typeWords...) {
		if name.Fine(s) || name.Var(s) {
			t.Errorf("%q is a word, and yet a name or a type variable", s)
		}
	}
}

// P1.3: of all lists of up to four of these words, those that rise have each name once, and they are as many as the sets of the names.
func TestRisingOnce(t *testing.T) {
	words := []string{"b", "a", "a1", "ab", "X", "let", ""}
	rose := 0
	var walk func(l []string)
	walk = func(l []string) {
		if name.Rising(l) {
			rose++
			for i, s := range l {
				if !name.Fine(s) || !name.Fresh(l[:i], s) || !name.Fresh(l[i+1:], s) {
					t.Errorf("Rising(%q) = true, but %q is no name or stands there twice", l, s)
				}
			}
		}
		if len(l) == 4 {
			return
		}
		for _, s := range words {
			walk(append(l[:len(l):len(l)], s))
		}
	}
	walk(nil)
	if rose != 1<<4 {
		t.Errorf("%d lists rise, want %d", rose, 1<<4)
	}
}

// Lists that are handed in stay as they are.
func TestArgumentsStay(t *testing.T) {
	l := []string{"b", "a", "X", "a"}
	name.Rising(l)
	name.Fresh(l, "a")
	if strings.Join(l, ",") != "b,a,X,a" {
		t.Errorf("the list was changed: %q", l)
	}
}
