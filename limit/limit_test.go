package limit_test

import (
	"fmt"
	"testing"

	"limbeck/api"
	"limbeck/limit"
	"limbeck/ty"
)

var (
	integer = api.Ty{K: api.TInt}
	boolean = api.Ty{K: api.TBool}
	top     = api.Ty{K: api.TTop}
)

func variable(s string) api.Ty { return api.Ty{K: api.TVar, Name: s} }

func TestByName(t *testing.T) {
	if l := limit.ByName(nil); len(l) != 0 {
		t.Errorf("of none: %v", l)
	}
	l := limit.ByName([]api.Bind{{Name: "Y", Type: integer}, {Name: "X", Type: ty.Fun(top, boolean)}})
	if len(l) != 2 || !ty.Same(l["Y"], integer) || !ty.Same(l["X"], ty.Fun(top, boolean)) {
		t.Errorf("%v", l)
	}
}

func TestUp(t *testing.T) {
	l := map[string]api.Ty{"X": integer, "Y": ty.Fun(top, boolean)}
	for _, c := range []struct{ a, want api.Ty }{
		{variable("X"), integer}, {variable("Y"), ty.Fun(top, boolean)}, {variable("Z"), top}, {boolean, boolean}, {top, top},
		{ty.Fun(variable("X"), integer), ty.Fun(variable("X"), integer)},
		{api.Ty{K: api.TSeal, Name: "X"}, api.Ty{K: api.TSeal, Name: "X"}}, // only a variable has a bound
	} {
		if got := limit.Up(l, c.a); !ty.Same(got, c.want) {
			t.Errorf("Up(%v) = %v", c.a, got)
		}
	}
	if got := limit.Up(nil, variable("X")); !ty.Same(got, top) {
		t.Errorf("without bounds: %v", got)
	}
}

func TestAbout(t *testing.T) {
	l := map[string]api.Ty{"X": integer, "Y": boolean, "Z": top}
	for _, c := range []struct {
		a, b api.Ty
		want []api.Bind
	}{
		{integer, boolean, nil},
		{variable("V"), integer, nil},
		{variable("X"), integer, []api.Bind{{Name: "X", Type: integer}}},
		{integer, variable("Z"), []api.Bind{{Name: "Z", Type: top}}},
		{variable("X"), variable("X"), []api.Bind{{Name: "X", Type: integer}}},
		{ty.Fun(variable("Z"), variable("V")), ty.Fun(variable("X"), ty.Fun(top, variable("Z"))), []api.Bind{{Name: "X", Type: integer}, {Name: "Z", Type: top}}},
	} {
		if got := limit.About(l, c.a, c.b); fmt.Sprint(got) != fmt.Sprint(c.want) {
			t.Errorf("About(%v, %v) = %v", c.a, c.b, got)
		}
	}
}
