package well

import (
	"fmt"
	"math"
	"math/rand"
	"reflect"
	"slices"
	"testing"

	"bascule/api"
	"bascule/eval"
	"bascule/model"
	"bascule/types"
	"bascule/value"
)

func pick[T any](r *rand.Rand, from ...T) T { return from[r.Intn(len(from))] }

// anyType answers a ground type of so many within one another at most.
func anyType(r *rand.Rand, depth int) api.Type {
	switch k := r.Intn(8); {
	case depth > 1 && k < 2:
		return listOf(anyType(r, depth-1))
	case depth > 1 && k == 2:
		return recOf("a b", anyType(r, depth-1), anyType(r, depth-1))
	case k == 3:
		return recOf("c", typ(api.TInt))
	}
	return typ(api.TBool + r.Intn(4))
}

// anyOf answers a value of a ground type.
func anyOf(r *rand.Rand, of api.Type) api.Value {
	v := api.Value{Kind: of.Kind, Names: of.Names}
	switch of.Kind {
	case api.TBool:
		v.N = int64(r.Intn(2))
	case api.TInt:
		v.N = pick(r, 0, 1, 2, -1, 5, math.MaxInt64, math.MinInt64, r.Int63())
	case api.TFloat:
		v.F = pick(r, 0, math.Copysign(0, -1), 1, -2.5, math.NaN(), math.Inf(1), math.Inf(-1), math.MaxFloat64)
	case api.TStr:
		v.S = pick(r, "", "a", "\xff", rep("x", 150))
	case api.TList:
		for range r.Intn(3) {
			v.Items = append(v.Items, anyOf(r, of.Items[0]))
		}
	case api.TRec:
		for _, item := range of.Items {
			v.Items = append(v.Items, anyOf(r, item))
		}
	}
	return v
}

// anyExpr answers an expression that most likely is of a type, with variables or without.
func anyExpr(r *rand.Rand, vars []api.Var, of api.Type, depth int) api.Expr {
	with := func(kind int, kids ...api.Type) api.Expr {
		x := api.Expr{Kind: kind}
		for _, kid := range kids {
			x.Kids = append(x.Kids, anyExpr(r, vars, kid, depth-1))
		}
		return x
	}
	k := r.Intn(8)
	switch {
	case depth <= 1 || k < 2:
		return leaf(r, vars, of)
	case k == 2:
		return with(api.EIf, typ(api.TBool), of, of)
	case k == 3:
		return with(api.EIndex, listOf(of), typ(api.TInt))
	case k == 4:
		x := with(api.EField, recOf("a b", typ(api.TInt), of))
		x.S = "b"
		return x
	}
	any, plain, ordered := anyType(r, 2), typ(api.TBool+r.Intn(4)), typ(api.TInt+r.Intn(3))
	later := func(kind int, kids ...api.Type) func() api.Expr {
		return func() api.Expr { return with(kind, kids...) }
	}
	switch of.Kind {
	case api.TBool:
		return pick(r, later(api.ENot, of), later(api.EAnd, of, of), later(api.EOr, of, of), later(api.EEq, any, any), later(api.ELess, ordered, ordered), later(api.ELeq, ordered, ordered))()
	case api.TInt:
		return pick(r, later(api.ENeg, of), later(api.ELen, typ(api.TStr)), later(api.ELen, listOf(any)), later(api.EInt, typ(api.TFloat)), later(api.EAdd+r.Intn(5), of, of), later(api.EDiv, of, of))()
	case api.TFloat:
		return pick(r, later(api.ENeg, of), later(api.EFloat, typ(api.TInt)), later(api.EAdd+r.Intn(4), of, of))()
	case api.TStr:
		return pick(r, later(api.EStr, plain), later(api.EAdd, of, of), later(api.EAdd, of, of))()
	case api.TList:
		return pick(r, later(api.EAdd, of, of), later(api.EList, slices.Repeat(of.Items, r.Intn(3))...))()
	}
	x := with(api.ERec, of.Items...)
	x.Names = of.Names
	return x
}

// sound answers an expression that is of a type, and, without variables, comes to a value.
func sound(r *rand.Rand, vars []api.Var, of api.Type) api.Expr {
	for {
		x := anyExpr(r, vars, of, 1+r.Intn(6))
		t, e := types.Check(x, vars)
		if v, ok := eval.Const(x); e == api.OK && stands(t, of) && (len(vars) > 0 || ok && value.Fits(v, of)) {
			return x
		}
	}
}

// leaf answers a variable of the type, or a constant that stands for it.
func leaf(r *rand.Rand, vars []api.Var, of api.Type) api.Expr {
	var fitting []string
	for _, v := range vars {
		if types.Same(v.Type, of) {
			fitting = append(fitting, v.Name)
		}
	}
	if len(fitting) > 0 && r.Intn(5) > 0 {
		return expr(pick(r, fitting...))
	}
	switch of.Kind {
	case api.TBool:
		return expr(pick(r, "true", "false"))
	case api.TInt:
		return expr(pick(r, "0", "2", "9223372036854775807"))
	case api.TFloat:
		return expr(pick(r, "nan", "3p-1", "inf", "0p0"))
	case api.TStr:
		return expr(pick(r, `""`, `"b"`))
	case api.TList:
		return expr("[]")
	}
	x := api.Expr{Kind: api.ERec, Names: of.Names}
	for _, item := range of.Items {
		x.Kids = append(x.Kids, leaf(r, vars, item))
	}
	return x
}

// anyOrder answers one of so many labels that is a lattice.
func anyOrder(r *rand.Rand, labels int) [][2]int {
	if labels == 4 && r.Intn(2) == 0 {
		return [][2]int{{0, 1}, {0, 2}, {1, 3}, {2, 3}}
	}
	row := r.Perm(labels)
	return many(labels-1, func(i int) [2]int { return [2]int{row[i], row[i+1]} })
}

// anyModel answers a model that is well formed.
func anyModel(r *rand.Rand) api.Model {
	m := api.Model{Labels: 1 + r.Intn(8)}
	m.Order = anyOrder(r, m.Labels)
	m.Grants = many(pick(r, 0, 1, 3, 64), func(int) [2]int { return [2]int{r.Intn(m.Labels), r.Intn(m.Labels)} })
	m.Vars = many(pick(r, 1, 4, 8, 16), func(i int) api.Var {
		of := anyType(r, 3)
		return api.Var{Name: fmt.Sprint("v", i), Label: r.Intn(m.Labels), Type: of, Init: anyOf(r, of)}
	})
	m.Msgs = many(pick(r, 1, 2, 8), func(i int) api.Msg {
		return api.Msg{Name: fmt.Sprint("v", i), Label: r.Intn(m.Labels), Key: anyType(r, 2), Body: m.Vars[r.Intn(len(m.Vars))].Type}
	})
	m.Nodes = many(pick(r, 2, 3, 10, 20, 40), func(i int) api.Node {
		kind := 1 + r.Intn(13)
		switch i {
		case 0:
			kind = api.NStart
		case 1:
			kind = api.NEnd
		}
		return api.Node{Kind: kind}
	})
	var targets []int
	for at, n := range m.Nodes {
		if n.Kind != api.NStart {
			targets = append(targets, at)
		}
	}
	for at := range m.Nodes {
		m.Nodes[at] = anyNode(r, m, m.Nodes[at].Kind, func() int { return pick(r, targets...) })
	}
	return m
}

// anyNode answers a node of a kind, with ways to where to says.
func anyNode(r *rand.Rand, m api.Model, kind int, to func() int) api.Node {
	n := api.Node{Kind: kind, Label: r.Intn(m.Labels), Var: -1, Msg: -1, Catch: pick(r, -1, to())}
	ways := 1
	needs := func(of api.Type) api.Expr { return sound(r, m.Vars, of) }
	n.Var = r.Intn(len(m.Vars))
	n.Msg = r.Intn(len(m.Msgs))
	of, msg := m.Vars[n.Var].Type, m.Msgs[n.Msg]
	switch kind {
	case api.NStart, api.NEnd, api.NStop, api.NPar:
		n.Var, n.Msg, n.Catch = -1, -1, -1
		ways = map[int]int{api.NStart: 1, api.NPar: 1 + r.Intn(6)}[kind]
	case api.NTask:
		n.Msg, n.Expr = -1, needs(of)
	case api.NChoose, api.NSome:
		n.Var, n.Msg = -1, -1
		n.Conds = many(1+r.Intn(5), func(int) api.Expr { return needs(typ(api.TBool)) })
		ways = len(n.Conds) + 1
	case api.NUser:
		n.Msg, n.Wait = -1, pick(r, 0, 1, 1000)
		n.Catch = to()
		if n.Wait == 0 {
			n.Catch = -1
		}
	case api.NTimer:
		n.Var, n.Msg, n.Catch, n.Wait = -1, -1, -1, 1+r.Intn(1000)
	case api.NReceive, api.NEvent:
		for at, v := range m.Vars {
			if types.Same(v.Type, msg.Body) {
				n.Var = at
			}
		}
		n.Expr = needs(msg.Key)
		if kind == api.NEvent {
			ways, n.Wait = 2, 1+r.Intn(1000)
		}
	case api.NSend:
		n.Var, n.Expr, n.Body = -1, needs(msg.Key), needs(msg.Body)
	case api.NRelease:
		n.Msg, n.Catch, n.From = -1, -1, r.Intn(m.Labels)
		n.Expr, n.Body = needs(of), sound(r, nil, of)
	}
	n.Next = many(ways, func(int) int { return to() })
	return n
}

// places are all fields, and things in lists, of anything that is handed in by a pointer.
func places(v reflect.Value) []reflect.Value {
	all := []reflect.Value{v}
	switch v.Kind() {
	case reflect.Struct:
		for i := range v.NumField() {
			all = append(all, places(v.Field(i))...)
		}
	case reflect.Slice, reflect.Array:
		for i := range v.Len() {
			all = append(all, places(v.Index(i))...)
		}
	}
	return all
}

// turn makes another thing of one of a model's parts: of each field of it as often, however much there is in it.
func turn(r *rand.Rand, m *api.Model) {
	whole := reflect.ValueOf(m).Elem()
	all := places(whole.Field(r.Intn(whole.NumField())))
	v := all[0]
	if r.Intn(4) > 0 {
		v = pick(r, all...)
	}
	switch v.Kind() {
	case reflect.Int, reflect.Int64:
		v.SetInt(pick(r, v.Int()+1, v.Int()-1, -1, 0, 1, int64(r.Intn(16)), int64(r.Intn(1100)), math.MinInt64, math.MaxInt64))
	case reflect.Float64:
		v.SetFloat(pick(r, 0, math.Copysign(0, -1), math.NaN(), 1))
	case reflect.String:
		v.SetString(pick(r, "", "a", "v0", "v1", "b", "len", "A", rep("x", 31)))
	case reflect.Slice:
		turnList(r, v)
	case reflect.Struct, reflect.Array: // in the place of another one of its type
		other := pick(r, all...)
		for range 200 {
			if other.Type() == v.Type() {
				break
			}
			other = pick(r, all...)
		}
		if other.Type() == v.Type() {
			v.Set(copied(other)) // as it is, it might have v within itself
		}
	}
}

// copied answers the same, with lists of its own.
func copied(v reflect.Value) reflect.Value {
	own := reflect.New(v.Type()).Elem()
	own.Set(v)
	switch v.Kind() {
	case reflect.Slice:
		own.Set(reflect.MakeSlice(v.Type(), v.Len(), v.Len()))
		for i := range v.Len() {
			own.Index(i).Set(copied(v.Index(i)))
		}
	case reflect.Struct:
		for i := range v.NumField() {
			own.Field(i).Set(copied(v.Field(i)))
		}
	}
	return own
}

func turnList(r *rand.Rand, v reflect.Value) {
	n := v.Len()
	longer := reflect.MakeSlice(v.Type(), n+1, n+1)
	reflect.Copy(longer, v)
	switch {
	case n == 0 || r.Intn(4) == 0: // one more, of nothing or twice
		if n > 0 && r.Intn(2) == 0 {
			longer.Index(n).Set(v.Index(r.Intn(n)))
		}
		v.Set(longer)
	case r.Intn(2) == 0:
		v.Set(longer.Slice(0, r.Intn(n)))
	default:
		at := r.Intn(n)
		v.Set(reflect.AppendSlice(longer.Slice(0, at), v.Slice(at+1, n)))
	}
}

// P14.1: models of any shape, with some parts turned, against the document's words.
func TestManyModels(t *testing.T) {
	r := rand.New(rand.NewSource(14))
	came := map[int]int{}
	for range 1500 {
		whole := anyModel(r)
		check(t, "a model that is well formed", whole)
		for range 3 {
			m := model.Own(whole)
			for range pick(r, 1, 1, 2, 3, 10) {
				turn(r, &m)
			}
			got, want := Check(m), judged(m)
			if !slices.Equal(got, want) {
				t.Fatalf("faults %v, not %v, of %+v", got, want, m)
			}
			for _, f := range got {
				came[f.Rule]++
			}
			came[0] += 1 - min(1, len(got))
		}
	}
	for rule := range 8 {
		if came[rule] < 50 {
			t.Error("hardly ever came:", rule, came)
		}
	}
}

// P14.3: in a model that is well formed all edges lead to nodes that are no starts.
func checkEdges(t *testing.T, m api.Model) {
	t.Helper()
	for _, way := range model.Edges(m) {
		if way.To < 0 || way.To >= len(m.Nodes) || m.Nodes[way.To].Kind == api.NStart {
			t.Fatalf("%+v leads nowhere: %+v", way, m)
		}
	}
}

// goals are the types that what a node's expressions come to is of.
func goals(m api.Model, n api.Node) []api.Type {
	all := slices.Repeat([]api.Type{typ(api.TBool)}, len(n.Conds))
	switch n.Kind {
	case api.NTask:
		all = append(all, m.Vars[n.Var].Type)
	case api.NReceive, api.NEvent:
		all = append(all, m.Msgs[n.Msg].Key)
	case api.NSend:
		all = append(all, m.Msgs[n.Msg].Key, m.Msgs[n.Msg].Body)
	case api.NRelease:
		all = append(all, m.Vars[n.Var].Type, m.Vars[n.Var].Type)
	}
	return all
}

// P14.3: its expressions come to values of their types, and of errors to no others than those of numbers, indexes and sizes.
func TestWellFormedIsSound(t *testing.T) {
	r := rand.New(rand.NewSource(3))
	came := map[api.Errno]int{}
	turned, kinds := 0, map[int]int{}
	for range 2000 {
		m := anyModel(r)
		if r.Intn(3) > 0 {
			m = model.Own(m)
			turn(r, &m)
			turned++
		}
		if len(Check(m)) > 0 {
			turned--
			continue
		}
		checkEdges(t, m)
		inits := many(len(m.Vars), func(i int) api.Value { return m.Vars[i].Init })
		for round := range 3 {
			values := inits
			if round > 0 {
				values = many(len(m.Vars), func(i int) api.Value { return anyOf(r, m.Vars[i].Type) })
			}
			for _, n := range m.Nodes {
				kinds[n.Kind]++
				for i, x := range model.Exprs(n) {
					v, e := eval.Eval(x, m.Vars, values)
					came[e]++
					switch e {
					case api.OK:
						if !value.Fits(v, goals(m, n)[i]) {
							t.Fatalf("%+v of %+v isn't of its type", v, n)
						}
					case api.ErrOverflow, api.ErrDivide, api.ErrIndex, api.ErrRange:
						if n.Kind == api.NRelease && i == 1 {
							t.Fatalf("%+v: its Body comes to error %d", n, e)
						}
					default:
						t.Fatalf("%+v: error %d", n, e)
					}
				}
			}
		}
	}
	for _, e := range []api.Errno{api.OK, api.ErrOverflow, api.ErrDivide, api.ErrIndex, api.ErrRange} {
		if came[e] < 30 {
			t.Error("hardly ever came:", e, came)
		}
	}
	for kind := api.NStart; kind <= api.NStop; kind++ {
		if turned < 50 || kinds[kind] < 500 {
			t.Error("hardly ever came:", turned, kinds)
		}
	}
	checkEdges(t, full())
}
