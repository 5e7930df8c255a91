// Package fresh copies what layers answer, so that it is new memory, whatever of their arguments it is made of.
package fresh

import (
	"strings"

	"bascule/api"
)

// Value answers any value in new memory, each float with its bits, of what is no number too.
func Value(v api.Value) api.Value {
	v.S = strings.Clone(v.S)
	v.Names = Names(v.Names)
	v.Items = Each(v.Items, Value)
	return v
}

// Type answers any type in new memory.
func Type(t api.Type) api.Type {
	t.Names = Names(t.Names)
	t.Items = Each(t.Items, Type)
	return t
}

// Expr answers any expression in new memory.
func Expr(x api.Expr) api.Expr {
	x.S = strings.Clone(x.S)
	x.V = Value(x.V)
	x.Names = Names(x.Names)
	x.Kids = Each(x.Kids, Expr)
	return x
}

// Names answers texts in new memory.
func Names(names []string) []string {
	return Each(names, strings.Clone)
}

// Each answers a list in new memory, each thing in it made anew by fresh; none for an empty one.
func Each[T any](list []T, fresh func(T) T) []T {
	copied := append([]T(nil), list...)
	for i, t := range copied {
		copied[i] = fresh(t)
	}
	return copied
}
