package lex_test

import (
	"fmt"
	"math"
	"math/big"
	"math/rand"
	"reflect"
	"regexp"
	"strconv"
	"strings"
	"testing"

	"limbeck/api"
	"limbeck/fault"
	"limbeck/lex"
)

// show writes tokens as a text: the kind, the number or the string, and the position of each.
func show(l []api.Token) string {
	kinds := map[int]string{api.TkEnd: "end", api.TkInt: "int", api.TkStr: "str", api.TkName: "name", api.TkType: "type", api.TkSign: "sign"}
	var out []string
	for _, t := range l {
		what := t.S
		if t.K == api.TkInt {
			what = strconv.Itoa(t.N) + t.S
		} else if t.N != 0 || t.K == api.TkStr {
			what = fmt.Sprintf("%q%d", t.S, t.N)
		}
		out = append(out, fmt.Sprintf("%s:%s@%d", kinds[t.K], what, t.At))
	}
	return strings.Join(out, " ")
}

func wantTokens(t *testing.T, s, want string) {
	t.Helper()
	l, err := lex.All(s)
	if err != nil || show(l) != want {
		t.Errorf("All(%.80q) = %.300s, %v, want %.300s", s, show(l), err, want)
	}
}

func wantError(t *testing.T, s string, code api.Errno, at int) {
	t.Helper()
	l, err := lex.All(s)
	if fault.Code(err) != code || fault.At(err) != at || fault.Def(err) != "" || !fault.Is(err, code) {
		t.Errorf("All(%.80q): error %d at %d, want %d at %d", s, fault.Code(err), fault.At(err), code, at)
	}
	if len(l) != 0 {
		t.Errorf("All(%.80q): tokens beside an error: %.200s", s, show(l))
	}
}

// P3.1: the document's examples, of the chapter and of the whole.
func TestExamples(t *testing.T) {
	wantError(t, "a 01", api.ErrForm, 2)
	wantError(t, "9223372036854775808", api.ErrLong, 0)
	wantError(t, "x aB", api.ErrName, 2)
	wantError(t, "abcdefghi", api.ErrLong, 0)
	wantError(t, `"a`, api.ErrEnd, 2)
	wantError(t, `"\q"`, api.ErrChar, 1)
	wantError(t, "a#", api.ErrChar, 1)
	wantTokens(t, "x==<:?", "name:x@0 sign:==@1 sign:<:@3 sign:?@5 end:@6")
	wantTokens(t, "a<:X", "name:a@0 sign:<:@1 type:X@3 end:@4")
}

// P3.1: ordinary sources.
func TestOrdinary(t *testing.T) {
	wantTokens(t, "def f[X <: Top](x: X): {a: X} = {a = x} ; done\n",
		"name:def@0 name:f@4 sign:[@5 type:X@6 sign:<:@8 type:Top@11 sign:]@14 sign:(@15 name:x@16 sign::@17 type:X@19 sign:)@20 sign::@21 "+
			"sign:{@23 name:a@24 sign::@25 type:X@27 sign:}@28 sign:=@30 sign:{@32 name:a@33 sign:=@35 name:x@37 sign:}@38 end:@47")
	wantTokens(t, "fn s => \"a\\x41\\n\" ++ s", `name:fn@0 name:s@3 sign:=>@5 str:"aA\n"0@8 sign:++@18 name:s@21 end:@22`)
	wantTokens(t, "(Int -> ?)-7*2/3", "sign:(@0 type:Int@1 sign:->@5 sign:?@8 sign:)@9 sign:-@10 int:7@11 sign:*@12 int:2@13 sign:/@14 int:3@15 end:@16")
}

// P3.1: what separates tokens, and a source of nothing else: the end stands behind all of it.
func TestGaps(t *testing.T) {
	for _, s := range []string{"", " ", "\t", "\n", "\r", " \t\r\n ", ";", ";;", "; a \" # \x00\xff\x80 \r still", ";\n", "\n;\n;\n ;", ";\n;", "; \\\" ; 01 xY"} {
		wantTokens(t, s, fmt.Sprintf("end:@%d", len(s)))
		wantTokens(t, s+"\n7"+s, fmt.Sprintf("int:7@%d end:@%d", len(s)+1, 2*len(s)+2))
	}
	wantTokens(t, "a;b\nc", "name:a@0 name:c@4 end:@5")
	wantTokens(t, "a;b\rc", "name:a@0 end:@5")
	wantTokens(t, "a;\n;x\n\nb", "name:a@0 name:b@7 end:@8")
	wantTokens(t, "let\tx\r\n=;\n1", "name:let@0 name:x@4 sign:=@7 int:1@10 end:@11")
	wantTokens(t, `";" ";`+"\x20\"", `str:";"0@0 str:"; "0@4 end:@8`)
	for _, c := range []string{"\v", "\f", "\x00", "\x7f", "\x85", "\xa0", "\u0085", "\u00a0", "\u2028", "\ufeff"} {
		wantError(t, "a "+c, api.ErrChar, 2)
	}
}

// P3.1: numbers, up to the greatest one and beyond it, and the zeros before a number.
func TestNumbers(t *testing.T) {
	for _, n := range []int{0, 1, 9, 10, 90, 100, 1234567890, math.MaxInt - 1, math.MaxInt, math.MaxInt / 10, math.MaxInt/10*10 - 1} {
		s := strconv.Itoa(n)
		wantTokens(t, s, fmt.Sprintf("int:%d@0 end:@%d", n, len(s)))
		wantTokens(t, "-"+s+"+", fmt.Sprintf("sign:-@0 int:%d@1 sign:+@%d end:@%d", n, len(s)+1, len(s)+2))
	}
	for _, s := range []string{"9223372036854775808", "9223372036854775809", "9223372036854775810", "9223372036854775817", "9999999999999999999", "10000000000000000000",
		"18446744073709551615", "18446744073709551616", "18446744073709551617", "92233720368547758070", strings.Repeat("9", 1000), "1" + strings.Repeat("0", 64), strings.Repeat("1", api.MaxSource-2)} {
		wantError(t, s, api.ErrLong, 0)
		wantError(t, "a "+s, api.ErrLong, 2)
	}
	for _, s := range []string{"00", "01", "007", "08", "0123456789", "09223372036854775808", "0" + strings.Repeat("9", 100), strings.Repeat("0", 50)} {
		wantError(t, s, api.ErrForm, 0)
		wantError(t, ";\n(\t"+s+"#", api.ErrForm, 4)
	}
	wantTokens(t, "1a", "int:1@0 name:a@1 end:@2")
	wantTokens(t, "0x41", "int:0@0 name:x41@1 end:@4")
	wantTokens(t, "0.0", "int:0@0 sign:.@1 int:0@2 end:@3")
	wantTokens(t, "1e5 7X", "int:1@0 name:e5@1 int:7@4 type:X@5 end:@6")
	wantError(t, "1_000", api.ErrChar, 1)
	wantError(t, "\u0663", api.ErrChar, 0)
}

// P3.1: words of the four kinds, their length, and those of no kind.
func TestWords(t *testing.T) {
	for _, s := range []string{"let", "in", "if", "then", "else", "fn", "call", "def", "true", "false", "a", "z", "x1", "lets", "int", "z9876543", "abcdefgh"} {
		wantTokens(t, s, fmt.Sprintf("name:%s@0 end:@%d", s, len(s)))
	}
	for _, s := range []string{"Int", "Bool", "String", "Top", "A", "Z", "X", "Xy", "XY", "Int1", "LET", "A1b2C3d4", "ABCDEFGH"} {
		wantTokens(t, "?"+s+" ", fmt.Sprintf("sign:?@0 type:%s@1 end:@%d", s, len(s)+2))
	}
	for _, s := range []string{"aB", "xY1", "iNT", "letX", "abcdefgH", "zZ"} {
		wantError(t, s, api.ErrName, 0)
		wantError(t, "let "+s+" #", api.ErrName, 4)
	}
	for _, s := range []string{"abcdefghi", "abcdefgHi", "aBcdefghi", "ABCDEFGHI", "a12345678", "letletlet", strings.Repeat("x", 1000), strings.Repeat("Y", api.MaxSource)} {
		wantError(t, s, api.ErrLong, 0)
	}
	wantError(t, "x := abcdefghij", api.ErrLong, 5)
	wantError(t, "a_b", api.ErrChar, 1)
	wantError(t, "a\u00e9", api.ErrChar, 1)
	wantError(t, "X\xff", api.ErrChar, 1)
	wantError(t, "\u212a", api.ErrChar, 0)
}

// P3.1: every operator by itself, and every two of them side by side: the longer one counts.
func TestSigns(t *testing.T) {
	two := []string{"=>", "->", "<:", "++", "=="}
	one := []string{"(", ")", "{", "}", "[", "]", ",", ":", ".", "=", "?", "+", "-", "*", "/", "<"}
	pairs := map[string]bool{}
	for _, s := range two {
		pairs[s] = true
		wantTokens(t, s, "sign:"+s+"@0 end:@2")
		wantTokens(t, s[:1]+" "+s, "sign:"+s[:1]+"@0 sign:"+s+"@2 end:@4")
	}
	for _, s := range one {
		wantTokens(t, s, "sign:"+s+"@0 end:@1")
		for _, u := range one {
			if !pairs[s+u] {
				wantTokens(t, s+u, "sign:"+s+"@0 sign:"+u+"@1 end:@2")
			}
			wantTokens(t, s+";\n"+u, "sign:"+s+"@0 sign:"+u+"@3 end:@4")
		}
	}
	wantTokens(t, "===", "sign:==@0 sign:=@2 end:@3")
	wantTokens(t, "<::<:", "sign:<:@0 sign::@2 sign:<:@3 end:@5")
	wantTokens(t, "+++=>->", "sign:++@0 sign:+@2 sign:=>@3 sign:->@5 end:@7")
	wantTokens(t, "<=>", "sign:<@0 sign:=>@1 end:@3")
	wantError(t, "==>", api.ErrChar, 2)
	wantError(t, "- >", api.ErrChar, 2)
	wantError(t, "<>", api.ErrChar, 1)
}

// P3.1: a byte that begins no token, in place of a whole source and behind other tokens.
func TestForeign(t *testing.T) {
	begins := "abcdefghijklmnopqrstuvwxyzABCDEFGHIJKLMNOPQRSTUVWXYZ0123456789(){}[],:.=?+-*/<\"; \t\r\n"
	for c := range 256 {
		s := string([]byte{byte(c)})
		if strings.Contains(begins, s) {
			continue
		}
		wantError(t, s, api.ErrChar, 0)
		wantError(t, "let x"+s+"01", api.ErrChar, 5)
		wantError(t, s+"01", api.ErrChar, 0)
	}
	for _, s := range []string{">", ">=", "!", "&&", "@", "#", "$", "%", "^", "|", "\\", "'", "`", "~", "_", "\\n"} {
		wantError(t, "*"+s, api.ErrChar, 1)
	}
}

// P3.1: strings with each byte as itself, and with each escape.
func TestStrings(t *testing.T) {
	wantTokens(t, `""`, `str:""0@0 end:@2`)
	wantTokens(t, `"" ""`, `str:""0@0 str:""0@3 end:@5`)
	wantTokens(t, `"a""b"c`, `str:"a"0@0 str:"b"0@3 name:c@6 end:@7`)
	wantTokens(t, `"\"\\\n\x41"`, `str:"\"\\\nA"0@0 end:@12`)
	wantTokens(t, `"let 01 xY # ;"`, `str:"let 01 xY # ;"0@0 end:@15`)
	for c := range 256 {
		s := string([]byte{byte(c)})
		switch {
		case c == '"':
			wantError(t, `"a"" `, api.ErrEnd, 5)
		case c == '\\':
			wantError(t, `"a\`, api.ErrChar, 2)
			wantError(t, `"a\" `, api.ErrEnd, 5)
		case c >= 32 && c <= 126:
			wantTokens(t, `"`+s+`"`, fmt.Sprintf("str:%q0@0 end:@3", s))
			wantTokens(t, ` "a`+s+`b"`, fmt.Sprintf("str:%q0@1 end:@6", "a"+s+"b"))
		default:
			wantError(t, `"`+s+`"`, api.ErrChar, 1)
			wantError(t, `("ab`+s+`" #`, api.ErrChar, 4)
			wantError(t, `"`+s, api.ErrChar, 1)
		}
		wantTokens(t, fmt.Sprintf(`"\x%02x"`, c), fmt.Sprintf("str:%q0@0 end:@6", s))
		if !strings.Contains(`"\nx`, s) {
			wantError(t, `"ab\`+s+`"`, api.ErrChar, 3)
		}
		if !strings.Contains("0123456789abcdef", s) {
			wantError(t, `"\x`+s+`0"`, api.ErrChar, 1)
			wantError(t, `"-\x0`+s+`"`, api.ErrChar, 2)
		}
	}
}

// P3.1: strings that end too early: without a closing quote, and within an escape.
func TestStringEnds(t *testing.T) {
	for _, s := range []string{"", "a", "ab c", `\n`, `\\`, `\"`, `\x0a`, "; let", strings.Repeat("a", api.MaxStr)} {
		wantError(t, `"`+s, api.ErrEnd, len(s)+1)
		wantError(t, `x "`+s, api.ErrEnd, len(s)+3)
	}
	for _, s := range []string{`\`, `\x`, `\x4`, `\xg`, `\x4g`, `\X41`, `\N`, `\t`, `\0`, `\'`, `\xA0`, `\x0A`, `\x 1`, `\x-1`, `\x+1`} {
		wantError(t, `"`+s, api.ErrChar, 1)
		wantError(t, `"ab`+s, api.ErrChar, 3)
		wantError(t, `"`+s+"\n", api.ErrChar, 1)
	}
	for _, s := range []string{`\x`, `\x4`, `\xg1`, `\x4g`, `\X41`, `\r`, `\u0041`} {
		wantError(t, `"ab`+s+`"`, api.ErrChar, 3)
	}
	wantError(t, "\"a\nb\"", api.ErrChar, 2)
	wantError(t, "\"\\\n\"", api.ErrChar, 1)
}

// P3.1: the limit of strings counts the bytes that are meant; what is wrong before the limit is passed comes first.
func TestStringLength(t *testing.T) {
	for _, c := range []struct{ written, meant string }{{"a", "a"}, {`\"`, `"`}, {`\n`, "\n"}, {`\x00`, "\x00"}, {`\xff`, "\xff"}} {
		full := strings.Repeat(c.written, api.MaxStr)
		wantTokens(t, `"`+full+`"`, fmt.Sprintf("str:%q0@0 end:@%d", strings.Repeat(c.meant, api.MaxStr), len(full)+2))
		wantError(t, `"`+full, api.ErrEnd, len(full)+1)
		wantError(t, `"`+full+"\t", api.ErrChar, len(full)+1)
		wantError(t, `"`+full+`\q"`, api.ErrChar, len(full)+1)
		wantError(t, `"`+full+`\`, api.ErrChar, len(full)+1)
		wantError(t, `"`+full+"\xff", api.ErrChar, len(full)+1)
		for _, more := range []string{"a", " ", `\n`, `\\`, `\"`, `\x41`} {
			for _, end := range []string{`"`, "", "\t", `\q`, "\xff\"", `" #`} {
				wantError(t, `"`+full+more+end, api.ErrLong, 0)
				wantError(t, `; "
 "`+full+more+end, api.ErrLong, 5)
			}
		}
		wantError(t, `"`+strings.Repeat(c.written, api.MaxStr-1)+"\x7f", api.ErrChar, len(full)+1-len(c.written))
	}
	wantError(t, `"`+strings.Repeat("b", api.MaxSource-1), api.ErrLong, 0)
}

// P3.1: a source that is too long is nothing else; one as long as the limit is read.
func TestSourceLength(t *testing.T) {
	wantTokens(t, strings.Repeat(" ", api.MaxSource), fmt.Sprintf("end:@%d", api.MaxSource))
	wantTokens(t, strings.Repeat(" ", api.MaxSource-1)+"x", fmt.Sprintf("name:x@%d end:@%d", api.MaxSource-1, api.MaxSource))
	l, err := lex.All(strings.Repeat("(", api.MaxSource))
	if err != nil || len(l) != api.MaxSource+1 {
		t.Errorf("%d tokens, %v", len(l), err)
	}
	wantError(t, strings.Repeat(" ", api.MaxSource-1)+"#", api.ErrChar, api.MaxSource-1)
	for _, n := range []int{api.MaxSource + 1, 2 * api.MaxSource, 1 << 22} {
		for _, s := range []string{" ", "x", "#", `"`, "\xff", "0"} {
			wantError(t, strings.Repeat(s, n), api.ErrLong, 0)
		}
		wantError(t, ";"+strings.Repeat(" ", n-1), api.ErrLong, 0)
	}
}

// P3.1: of several errors the one at the first position is told.
func TestFirstError(t *testing.T) {
	wantError(t, "xY 01 # abcdefghi", api.ErrName, 0)
	wantError(t, "a 01 xY", api.ErrForm, 2)
	wantError(t, "a abcdefghI 01", api.ErrLong, 2)
	wantError(t, `# "`, api.ErrChar, 0)
	wantError(t, "\"ok\" \"bad\t\" 01", api.ErrChar, 9)
	wantError(t, `x ++ " 01 xY #`, api.ErrEnd, 14)
	wantError(t, "1 9223372036854775808 \"\\q", api.ErrLong, 2)
}

// Quote writes each byte as the document says.
func TestQuote(t *testing.T) {
	for s, want := range map[string]string{
		"": `""`, "a": `"a"`, "a b~": `"a b~"`, `"`: `"\""`, `\`: `"\\"`, "\n": `"\n"`, "\t\r\x00": `"\x09\x0d\x00"`, "\x1f\x7f\x80\xab\xff": `"\x1f\x7f\x80\xab\xff"`,
		"\u00e9": `"\xc3\xa9"`, "\ufffd": `"\xef\xbf\xbd"`, "a\"\\\n\x01": `"a\"\\\n\x01"`, `\n`: `"\\n"`, `\x41;'`: `"\\x41;'"`,
	} {
		if got := lex.Quote(s); got != want {
			t.Errorf("Quote(%q) = %s, want %s", s, got, want)
		}
	}
	for c := range 256 {
		want := fmt.Sprintf(`\x%02x`, c)
		switch {
		case c == '"' || c == '\\':
			want = `\` + string(rune(c))
		case c == '\n':
			want = `\n`
		case c >= 32 && c <= 126:
			want = string(rune(c))
		}
		if got := lex.Quote("p" + string([]byte{byte(c)}) + "q"); got != `"p`+want+`q"` {
			t.Errorf("Quote of the byte %d: %s", c, got)
		}
	}
	if got := lex.Quote(strings.Repeat("\xff", 1<<20)); len(got) != 4<<20+2 {
		t.Errorf("Quote of a long string has %d bytes", len(got))
	}
}

// P3.2: what Quote writes is one token with the same string, up to the limit; beyond it the string is too long.
func TestQuoteRead(t *testing.T) {
	r := rand.New(rand.NewSource(3))
	for range 5000 {
		b := make([]byte, r.Intn(api.MaxStr+3))
		for i := range b {
			if b[i] = byte(r.Intn(256)); r.Intn(3) == 0 {
				b[i] = "\"\\\nx0a;"[r.Intn(7)]
			}
		}
		s := string(b)
		q := lex.Quote(s)
		if len(s) > api.MaxStr {
			wantError(t, q, api.ErrLong, 0)
			continue
		}
		wantTokens(t, q, fmt.Sprintf("str:%q0@0 end:@%d", s, len(q)))
		wantTokens(t, "x"+q+q, fmt.Sprintf("name:x@0 str:%q0@1 str:%q0@%d end:@%d", s, s, len(q)+1, 2*len(q)+1))
	}
}

var (
	gaps     = regexp.MustCompile(`^(?:[ \t\n\r]|;[^\n]*)+`)
	integers = regexp.MustCompile(`^[0-9]+`)
	words    = regexp.MustCompile(`^[a-zA-Z][a-zA-Z0-9]*`)
	shapes   = regexp.MustCompile(`^(?:[a-z][a-z0-9]*|[A-Z][a-zA-Z0-9]*)$`)
	elements = regexp.MustCompile(`^(?:[ !#-\[\]-~]|\\["\\n]|\\x[0-9a-f][0-9a-f])`)
	signs    = regexp.MustCompile(`^(?:=>|->|<:|\+\+|==|[(){}\[\],:.=?+\-*/<])`)
)

// slowAll reads the document's definitions by patterns.
func slowAll(s string) ([]api.Token, api.Errno, int) {
	var l []api.Token
	at := 0
	for {
		rest := s[at:]
		at += len(gaps.FindString(rest))
		if rest = s[at:]; rest == "" {
			return append(l, api.Token{At: at}), api.OK, -1
		}
		t := api.Token{At: at}
		width := 0
		code, wrong := api.OK, at
		if w := integers.FindString(rest); w != "" {
			t.K, width = api.TkInt, len(w)
			n, _ := new(big.Int).SetString(w, 10)
			if t.N = int(n.Int64()); n.String() != w {
				code = api.ErrForm
			} else if !n.IsInt64() {
				code = api.ErrLong
			}
		} else if w := words.FindString(rest); w != "" {
			t.K, t.S, width = api.TkName, w, len(w)
			if w[0] < 'a' {
				t.K = api.TkType
			}
			if len(w) > 8 {
				code = api.ErrLong
			} else if !shapes.MatchString(w) {
				code = api.ErrName
			}
		} else if rest[0] == '"' {
			t.K = api.TkStr
			t.S, width, code, wrong = slowString(s, at)
		} else if w := signs.FindString(rest); w != "" {
			t.K, t.S, width = api.TkSign, w, len(w)
		} else {
			code = api.ErrChar
		}
		if code != api.OK {
			return nil, code, wrong
		}
		l = append(l, t)
		at += width
	}
}

func slowString(s string, from int) (string, int, api.Errno, int) {
	read := ""
	for at := from + 1; ; {
		if at == len(s) {
			return "", 0, api.ErrEnd, at
		}
		if s[at] == '"' {
			return read, at + 1 - from, api.OK, -1
		}
		w := elements.FindString(s[at:])
		if w == "" {
			return "", 0, api.ErrChar, at
		}
		meant, err := strconv.Unquote(`"` + w + `"`)
		if err != nil {
			panic(err)
		}
		if read += meant; len(read) > 40 {
			return "", 0, api.ErrLong, from
		}
		at += len(w)
	}
}

// wantSlow holds All against slowAll, and against the properties of P3.2: positions rise, and the last token alone is the end.
func wantSlow(t *testing.T, s string) {
	t.Helper()
	want, code, at := slowAll(s)
	if code != api.OK {
		wantError(t, s, code, at)
		return
	}
	got, err := lex.All(s)
	if err != nil || !reflect.DeepEqual(got, want) {
		t.Errorf("All(%q) = %s, %v, want %s", s, show(got), err, show(want))
	}
	for i, k := range got {
		if i > 0 && k.At <= got[i-1].At || (k.K == api.TkEnd) != (i == len(got)-1) {
			t.Errorf("All(%q): positions or the end: %s", s, show(got))
		}
	}
	if last := got[len(got)-1]; last != (api.Token{At: len(s)}) {
		t.Errorf("All(%q) ends with %v", s, last)
	}
}

// P3.1, P3.2: every source of up to two bytes, and of up to four of some.
func TestShort(t *testing.T) {
	for a := range 256 {
		wantSlow(t, string([]byte{byte(a)}))
		for b := range 256 {
			wantSlow(t, string([]byte{byte(a), byte(b)}))
		}
	}
	const some = "aX0x \n;\"\\n=<:>+-#\xff"
	var walk func(s string)
	walk = func(s string) {
		wantSlow(t, s)
		if len(s) == 4 {
			return
		}
		for i := range len(some) {
			walk(s + some[i:i+1])
		}
	}
	walk("")
}

// P3.1, P3.2: sources put together from parts, right ones and wrong ones, and from bytes.
func TestRandom(t *testing.T) {
	right := strings.Split(`let|in|fn|Int|Top|x|abcdefgh|X1|Abcdefgh|0|7|10|9223372036854775807|""|"a b"|"\x0a\n\"\\"|=>|->|<:|++|==|(|)|{|}|[|]|,|:|.|=|?|+|-|*|/|<|;|; note#`, "|")
	right = append(right, " ", "\n", "\r\n", "\t", ";\n", lex.Quote(strings.Repeat("\x00", 40)))
	wrong := []string{"01", "00", "9223372036854775808", "aB", "abcdefghi", `"`, `\`, `\x`, `\n`, `\q`, ">", "#", "\x00", "\xff", "\u00e9", strings.Repeat("a", 41), `"` + strings.Repeat("a", 41)}
	r := rand.New(rand.NewSource(4))
	for range 60000 {
		s := ""
		for n := r.Intn(14); n > 0; n-- {
			switch k := r.Intn(40); {
			case k == 0:
				s += wrong[r.Intn(len(wrong))]
			case k == 1:
				s += string([]byte{byte(r.Intn(256))})
			case k < 20:
				s += " "
				fallthrough
			default:
				s += right[r.Intn(len(right))]
			}
		}
		wantSlow(t, s)
		if i := r.Intn(len(s) + 1); i < len(s) { // and one byte of it changed
			wantSlow(t, s[:i]+string([]byte{byte(r.Intn(256))})+s[i+1:])
		}
	}
}

// An answer depends on the source alone, and what is done with an answer does not change another one.
func TestAnew(t *testing.T) {
	const s = `x == "a" 7`
	a, _ := lex.All(s)
	for i := range a {
		a[i] = api.Token{K: -1}
	}
	wantTokens(t, s, `name:x@0 sign:==@2 str:"a"0@5 int:7@9 end:@10`)
}
