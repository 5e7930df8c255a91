package none

import (
	"math"
	"testing"

	"bascule/api"
)

// somethings are values of Kind 0 with one thing in them, and of other kinds with nothing in them.
func somethings() []api.Value {
	some := []api.Value{{N: 1}, {N: -1}, {N: math.MinInt64}, {N: 1 << 32}, {S: "a"}, {S: "\x00"}, {Names: []string{""}}, {Items: []api.Value{{}}}}
	for _, f := range []float64{1, -1, math.Copysign(0, -1), math.NaN(), math.Inf(1), math.Inf(-1), math.SmallestNonzeroFloat64} {
		some = append(some, api.Value{F: f})
	}
	for _, kind := range []int{1, 2, 3, 4, 5, 6, 7, -1, 1 << 32, math.MinInt, math.MaxInt} {
		some = append(some, api.Value{Kind: kind})
	}
	return some
}

// Rule 4: a nil list and an empty one are one.
func TestNone(t *testing.T) {
	empty := api.Value{Names: []string{}, Items: make([]api.Value, 0, 3)}
	for _, v := range []api.Value{{}, empty} {
		if !Value(v) {
			t.Errorf("something: %+v", v)
		}
	}
	for _, x := range []api.Expr{{}, {V: empty}, {Names: []string{}, Kids: make([]api.Expr, 0, 3)}} {
		if !Expr(x) {
			t.Errorf("something: %+v", x)
		}
	}
}

func TestSomething(t *testing.T) {
	for _, v := range somethings() {
		if Value(v) {
			t.Errorf("none: %+v", v)
		}
		if Expr(api.Expr{V: v}) {
			t.Errorf("none: an expression with %+v", v)
		}
	}
	some := []api.Expr{{S: "a"}, {S: "\x00"}, {Names: []string{""}}, {Kids: []api.Expr{{}}}}
	for _, kind := range []int{1, 2, 16, 23, 24, -1, 1 << 32, math.MinInt, math.MaxInt} {
		some = append(some, api.Expr{Kind: kind})
	}
	for _, x := range some {
		if Expr(x) {
			t.Errorf("none: %+v", x)
		}
	}
}

// Things that have themselves within themselves are looked at no further than to where they have something.
func TestEndless(t *testing.T) {
	v := api.Value{Items: make([]api.Value, 1)}
	v.Items[0] = v
	x := api.Expr{Kids: make([]api.Expr, 1)}
	x.Kids[0] = x
	if Value(v) || Expr(x) || Expr(api.Expr{V: v}) {
		t.Error("none")
	}
}
