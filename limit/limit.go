// Package limit keeps valid bounds by the names of their variables, for the layers that go through types with them: a
// search of the bindings for each variable would take very long where both are many.
package limit

import (
	"limbeck/api"
	"limbeck/ty"
)

// ByName returns valid bounds, each under the name of its variable.
func ByName(d []api.Bind) map[string]api.Ty {
	l := make(map[string]api.Ty, len(d))
	for _, b := range d {
		l[b.Name] = b.Type
	}
	return l
}

// Up returns the bound of t, if t is a variable (Top if it has none), and otherwise t itself.
func Up(l map[string]api.Ty, t api.Ty) api.Ty {
	if t.K != api.TVar {
		return t
	}
	if bound, ok := l[t.Name]; ok {
		return bound
	}
	return api.Ty{K: api.TTop}
}

// About returns the bounds of the variables in a and b. How these types stand to each other depends on no others, and
// to have all of them validated for each question would take very long where both are many.
func About(l map[string]api.Ty, a, b api.Ty) []api.Bind {
	var d []api.Bind
	for _, s := range ty.Vars(ty.Fun(a, b)) {
		if bound, ok := l[s]; ok {
			d = append(d, api.Bind{Name: s, Type: bound})
		}
	}
	return d
}
