package fault_test

import (
	"errors"
	"fmt"
	"math"
	"math/rand"
	"strings"
	"testing"

	"limbeck/api"
	"limbeck/fault"
)

// seen is what the package's calls answer for an error, apart from Is.
type seen struct {
	code api.Errno
	at   int
	def  string
}

func see(err error) seen { return seen{fault.Code(err), fault.At(err), fault.Def(err)} }

func want(t *testing.T, err error, w seen) {
	t.Helper()
	if got := see(err); got != w {
		t.Errorf("%.80v is seen as %+v, want %+v", err, got, w)
	}
}

// wantCodes asks Is for every number, and for numbers beyond them: only those listed are in err.
func wantCodes(t *testing.T, err error, codes ...api.Errno) {
	t.Helper()
	in := map[api.Errno]bool{}
	for _, c := range codes {
		in[c] = true
	}
	for _, c := range allCodes() {
		if got := fault.Is(err, c); got != in[c] {
			t.Errorf("Is(%.80v, %d) = %v, want %v", err, c, got, in[c])
		}
	}
}

func allCodes() []api.Errno {
	l := []api.Errno{math.MinInt, -2, -1, api.ErrBad + 1, math.MaxInt}
	for c := api.OK; c <= api.ErrBad; c++ {
		l = append(l, c)
	}
	return l
}

var positions = []int{0, 1, 7, -1, -2, api.MaxSource, math.MinInt, math.MaxInt}

var other = errors.New("other")

// wrap is an error of another package that wraps one.
type wrap struct{ err error }

func (w wrap) Error() string { return "wrap" }

func (w wrap) Unwrap() error { return w.err }

// loose cannot be compared with anything of its type.
type loose []int

func (l loose) Error() string { return "loose" }

// wild panics whatever it is asked.
type wild struct{ what any }

func (w wild) Error() string { panic(w.what) }

func (w wild) Unwrap() error { panic(w.what) }

// asked panics only when it is asked for another type, or held against another error.
type asked struct{}

func (asked) Error() string { return "asked" }

func (asked) As(any) bool { panic("As") }

func (asked) Is(error) bool { panic("Is") }

// liar says that it is whatever it is asked for, and gives nothing.
type liar struct{}

func (liar) Error() string { return "liar" }

func (liar) As(any) bool { return true }

// absent is an error by its pointer, which may be nil.
type absent struct{ err error }

func (a *absent) Error() string { return "absent" }

func (a *absent) Unwrap() error { return a.err }

// P2.1: OK gives nil at whatever position; every other number gives a fault that keeps it, and its position.
func TestNew(t *testing.T) {
	for _, at := range positions {
		for _, c := range allCodes() {
			err := fault.New(c, at)
			if c == api.OK {
				if err != nil {
					t.Errorf("New(OK, %d) = %v", at, err)
				}
				continue
			}
			if err == nil {
				t.Errorf("New(%d, %d) = nil", c, at)
			}
			want(t, err, seen{c, at, ""})
			wantCodes(t, err, c)
		}
	}
}

// P2.2: the document's examples.
func TestExamples(t *testing.T) {
	err := fault.In("f", fault.New(api.ErrDeep, 7))
	want(t, err, seen{api.ErrDeep, 7, "f"})
	if !fault.Is(err, api.ErrDeep) || fault.Is(err, api.ErrWord) {
		t.Error("Is must be true for ErrDeep and false for ErrWord")
	}
	want(t, other, seen{api.ErrBad, -1, ""})
	if fault.Is(other, api.ErrBad) {
		t.Error("Is must be false for an error of another package and ErrBad")
	}
	if !fault.Is(nil, api.OK) {
		t.Error("Is must be true for nil and OK")
	}
}

// P2.2: nil is no error, and In leaves it so.
func TestNil(t *testing.T) {
	want(t, nil, seen{api.OK, -1, ""})
	wantCodes(t, nil, api.OK)
	for _, def := range []string{"", "f", "\xff"} {
		if err := fault.In(def, nil); err != nil {
			t.Errorf("In(%q, nil) = %v", def, err)
		}
	}
}

// P2.2: what other packages make has no number but ErrBad, no position, and no name but one given by In.
func TestOthers(t *testing.T) {
	var none *absent
	for _, err := range []error{other, wrap{nil}, wrap{other}, loose{1}, none, errors.Join(other, loose{}), fmt.Errorf("x: %w", other)} {
		want(t, err, seen{api.ErrBad, -1, ""})
		in := fault.In("f", err)
		if in == nil {
			t.Fatal("In gave nil for an error")
		}
		if errors.Unwrap(in) == nil {
			t.Error("In does not wrap what it was given")
		}
		want(t, in, seen{api.ErrBad, -1, "f"})
		if _, bad := err.(*absent); !bad {
			wantCodes(t, err)
			wantCodes(t, in)
		}
	}
}

// P2.2: a number by itself has no position and so is no fault; that it is in the error, errors.Is says all the same.
func TestBareNumber(t *testing.T) {
	for _, c := range allCodes() {
		want(t, c, seen{api.ErrBad, -1, ""})
		wantCodes(t, c, c)
		want(t, fault.In("g", c), seen{api.ErrBad, -1, "g"})
		wantCodes(t, fault.In("g", c), c)
	}
}

// The innermost name counts, whatever lies between the names, and be it empty or no name at all.
func TestDefInnermost(t *testing.T) {
	e := fault.New(api.ErrWord, 3)
	for _, def := range []string{"f", "", "not a name", "\x00\xff", strings.Repeat("long", 1000)} {
		want(t, fault.In(def, e), seen{api.ErrWord, 3, def})
		want(t, fault.In("g", fault.In(def, e)), seen{api.ErrWord, 3, def})
		want(t, fault.In("h", wrap{fault.In("g", wrap{fault.In(def, wrap{e})})}), seen{api.ErrWord, 3, def})
		want(t, wrap{wrap{fault.In(def, other)}}, seen{api.ErrBad, -1, def})
	}
	want(t, fault.In("g", errors.Join(other, fault.In("f", e))), seen{api.ErrWord, 3, "f"})
	want(t, errors.Join(fault.In("g", fault.In("f", e)), fault.In("h", other)), seen{api.ErrWord, 3, "f"})
}

// Several faults: the first one gives number and position, and all numbers are in the error.
func TestSeveral(t *testing.T) {
	err := fault.In("f", errors.Join(other, wrap{fault.New(api.ErrMany, 2)}, fault.New(api.ErrBig, 9)))
	want(t, err, seen{api.ErrMany, 2, "f"})
	wantCodes(t, err, api.ErrMany, api.ErrBig)
	want(t, errors.Join(nil, nil), seen{api.OK, -1, ""})
}

// The standard functions see the same as the package's.
func TestStandard(t *testing.T) {
	inner := fault.New(api.ErrOpen, 5)
	outer := fault.In("g", wrap{fault.In("f", inner)})
	if !errors.Is(outer, api.ErrOpen) || errors.Is(outer, api.ErrDeep) || !errors.Is(outer, inner) {
		t.Error("errors.Is does not find what was wrapped")
	}
	var code api.Errno
	if !errors.As(outer, &code) || code != api.ErrOpen {
		t.Errorf("errors.As finds the number %d", code)
	}
	if errors.Unwrap(fault.In("f", inner)) != inner {
		t.Error("In wraps something else than it was given")
	}
	a, b := fault.In("f", loose{1}), fault.In("f", loose{1})
	if errors.Is(a, b) || !errors.Is(a, a) {
		t.Error("wrapped errors that cannot be compared")
	}
}

// P2.3: chains of wrappings, each kind in random order, against a model.
func TestWrapped(t *testing.T) {
	r := rand.New(rand.NewSource(2))
	for i := 0; i < 3000; i++ {
		code := api.Errno(1 + r.Intn(int(api.ErrBad)))
		at := positions[r.Intn(len(positions))]
		err, w := fault.New(code, at), seen{code, at, ""}
		names := 0
		for n := r.Intn(12); n > 0; n-- {
			switch r.Intn(5) {
			case 0, 1:
				def := string(rune('a' + r.Intn(26)))
				err = fault.In(def, err)
				if names++; names == 1 {
					w.def = def
				}
			case 2:
				err = fmt.Errorf("more: %w", err)
			case 3:
				err = wrap{err}
			default:
				err = errors.Join(other, err)
			}
			want(t, err, w)
			want(t, err, w) // to ask changes nothing
		}
		wantCodes(t, err, code)
	}
}

// P2.3: as many wrappings as the document allows.
func TestWrappedDeep(t *testing.T) {
	err := fault.In("f", fault.New(api.ErrTwice, 11))
	for i := 1; i < 1<<16-2; i++ {
		if i%2 == 0 {
			err = fault.In("g", err)
		} else {
			err = wrap{err}
		}
	}
	want(t, err, seen{api.ErrTwice, 11, "f"})
	if !fault.Is(err, api.ErrTwice) || fault.Is(err, api.ErrMany) {
		t.Error("Is, deep within")
	}
	if err.Error() == "" {
		t.Error("no text")
	}
}

// No call panics (P1 of DOC.md), though a method of a foreign error does, or lies; what lies before such an error is found.
func TestPanics(t *testing.T) {
	var none *absent
	for _, err := range []error{wild{"x"}, wild{nil}, wild{other}, asked{}, liar{}, none, wrap{wild{1}}, wrap{asked{}}, wrap{liar{}}, errors.Join(other, asked{})} {
		want(t, err, seen{api.ErrBad, -1, ""})
		for _, c := range allCodes() {
			if fault.Is(err, c) {
				t.Errorf("Is(%T, %d) is true", err, c)
			}
		}
		if in := fault.In("f", err); see(in) != (seen{api.ErrBad, -1, "f"}) {
			t.Errorf("%T wrapped: %+v", err, see(in))
		}
		join := errors.Join(fault.New(api.ErrRange, 4), err)
		if got := see(join); got.code != api.ErrRange || got.at != 4 || !fault.Is(join, api.ErrRange) {
			t.Errorf("a fault before %T: %+v", err, got)
		}
	}
}

// Texts tell the names from without to within, then what went wrong.
func TestText(t *testing.T) {
	err := fault.In("g", fault.In("f", fault.New(api.ErrDeep, 7)))
	if got := err.Error(); got != "g: f: limbeck: error 7 at 7" {
		t.Errorf("text %q", got)
	}
	if got := fault.In("f", wrap{other}).Error(); got != "f: wrap" {
		t.Errorf("text %q", got)
	}
	if got := fault.New(-3, math.MinInt).Error(); got != "limbeck: error -3 at -9223372036854775808" {
		t.Errorf("text %q", got)
	}
}

// Two faults with the same number and position are the same, wherever they were made.
func TestSame(t *testing.T) {
	if fault.New(api.ErrDeep, 7) != fault.New(api.ErrDeep, 7) || fault.New(api.ErrDeep, 7) == fault.New(api.ErrDeep, 8) {
		t.Error("faults differ otherwise than by number and position")
	}
}
