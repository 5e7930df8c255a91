// Package none tells where no value, or no expression, stands at all.
package none

import (
	"math"

	"bascule/api"
)

// Value answers whether a value is none at all. A zero with a minus in F is something, so the bits are asked.
func Value(v api.Value) bool {
	return v.Kind == 0 && v.N == 0 && math.Float64bits(v.F) == 0 && v.S == "" && len(v.Names) == 0 && len(v.Items) == 0
}

// Expr answers whether an expression is none at all.
func Expr(x api.Expr) bool {
	return x.Kind == 0 && x.S == "" && Value(x.V) && len(x.Names) == 0 && len(x.Kids) == 0
}
