package model

import (
	"fmt"
	"math"
	"math/rand"
	"reflect"
	"slices"
	"strings"
	"testing"

	"bascule/api"
	"bascule/parse"
)

// expr reads an expression.
func expr(text string) api.Expr {
	x, at, e := parse.Parse(text)
	if e != api.OK {
		panic(fmt.Sprintf("no expression: %s: %d at %d", text, e, at))
	}
	return x
}

func exprs(texts ...string) []api.Expr {
	var all []api.Expr
	for _, text := range texts {
		all = append(all, expr(text))
	}
	return all
}

// tellValue tells what value.Same goes by.
func tellValue(v api.Value) string {
	switch v.Kind {
	case api.VBool, api.VInt:
		return fmt.Sprint(v.Kind, ":", v.N)
	case api.VFloat:
		if v.F != v.F {
			return "nan"
		}
		return fmt.Sprintf("%x", math.Float64bits(v.F))
	case api.VStr:
		return fmt.Sprintf("%q", v.S)
	case api.VList:
		return "list" + tellEach(v.Items, tellValue)
	case api.VRec:
		return fmt.Sprintf("rec %q", v.Names) + tellEach(v.Items, tellValue)
	}
	return fmt.Sprintf("other %d %d %q %q", v.Kind, v.N, v.S, v.Names) + tellEach(v.Items, tellValue)
}

func tellType(t api.Type) string {
	return fmt.Sprintf("%d %q", t.Kind, t.Names) + tellEach(t.Items, tellType)
}

func tellExpr(x api.Expr) string {
	return fmt.Sprintf("%d %q <%s> %q", x.Kind, x.S, tellValue(x.V), x.Names) + tellEach(x.Kids, tellExpr)
}

func tellEach[T any](list []T, tell func(T) string) string {
	s := "("
	for _, t := range list {
		s += tell(t) + ";"
	}
	return s + ")"
}

// tell tells what Same is to go by, and nothing else.
func tell(m api.Model) string {
	return fmt.Sprint(m.Labels, " ", m.Order, " ", m.Grants, " ") + tellEach(m.Vars, func(v api.Var) string {
		return fmt.Sprintf("%q %d %s %s", v.Name, v.Label, tellType(v.Type), tellValue(v.Init))
	}) + tellEach(m.Msgs, func(m api.Msg) string {
		return fmt.Sprintf("%q %d %s %s", m.Name, m.Label, tellType(m.Key), tellType(m.Body))
	}) + tellEach(m.Nodes, func(n api.Node) string {
		return fmt.Sprint(n.Kind, n.Label, n.Next, n.Var, " ", n.Msg, " ", n.Catch, " ", n.Wait, " ", n.From) + tellEach(n.Conds, tellExpr) + tellExpr(n.Expr) + tellExpr(n.Body)
	})
}

// filledValue has all fields, in parts of all kinds, with floats at their edges.
func filledValue(kind int) api.Value {
	return api.Value{Kind: kind, N: -3, F: 2.5, S: "text", Names: []string{"a", "b"}, Items: []api.Value{{Kind: api.VBool, N: 1}, {Kind: api.VFloat, F: math.Copysign(0, -1)}, {Kind: api.VFloat}, {Kind: api.VFloat, F: math.NaN()}, {Kind: api.VStr, S: "s"}, {Kind: api.VRec, Names: []string{"c"}, Items: []api.Value{{Kind: api.VInt, N: 7}}}, {Kind: 9, N: 4, S: "t", Names: []string{"d"}, Items: []api.Value{{Kind: api.VList}}}}}
}

func filledType(name string) api.Type {
	return api.Type{Kind: api.TRec, Names: []string{name, name + "x"}, Items: []api.Type{{Kind: api.TInt}, {Kind: api.TList, Items: []api.Type{{Kind: api.TRec, Names: []string{"z"}, Items: []api.Type{{Kind: api.TNone}}}}}}}
}

func filledExpr(kind int, name string) api.Expr {
	inner := api.Expr{Kind: api.EVar, S: name, V: filledValue(33), Names: []string{"p", "q"}, Kids: []api.Expr{expr("{a:[nan,\"s\"]}")}}
	return api.Expr{Kind: kind, S: name + "y", V: api.Value{Kind: api.VFloat, F: 0.5}, Names: []string{name}, Kids: []api.Expr{inner, {}}}
}

// filled has all lists, with three things each, and all fields, each time in new memory; hardly anything in it is right.
func filled() api.Model {
	m := api.Model{Labels: 4, Order: [][2]int{{0, 1}, {5, 2}, {3, -1}}, Grants: [][2]int{{2, 0}, {1, 7}, {3, 3}}}
	for i := range 3 {
		name := fmt.Sprint("name", i)
		m.Vars = append(m.Vars, api.Var{Name: name, Label: i, Type: filledType(name), Init: filledValue(api.VList + i)})
		m.Msgs = append(m.Msgs, api.Msg{Name: name + "m", Label: 5 - i, Key: filledType("k" + name), Body: filledType("b" + name)})
		m.Nodes = append(m.Nodes, api.Node{Kind: 2 + i, Label: 9 - i, Next: []int{i, i + 1, -i}, Conds: []api.Expr{expr("c+1"), expr("a&&b"), filledExpr(i, "d")}, Expr: filledExpr(api.EAdd+i, name), Body: filledExpr(40, name+"b"), Var: i + 3, Msg: i - 1, Catch: 2 * i, Wait: 10 + i, From: -i})
	}
	return m
}

// spot is a part of a model, with the way to it.
type spot struct {
	path string
	v    reflect.Value
}

// spots answers all parts, the lists among them.
func spots(path string, v reflect.Value) []spot {
	var all []spot
	switch v.Kind() {
	case reflect.Slice:
		all = append(all, spot{path, v})
		fallthrough
	case reflect.Array:
		for i := range v.Len() {
			all = append(all, spots(fmt.Sprint(path, "/", i), v.Index(i))...)
		}
		return all
	case reflect.Struct:
		for i := range v.NumField() {
			all = append(all, spots(path+"."+v.Type().Field(i).Name, v.Field(i))...)
		}
		return all
	}
	return []spot{{path, v}}
}

func spotsOf(m *api.Model) []spot { return spots("", reflect.ValueOf(m).Elem()) }

// changes are the ways to make another one of a part; each answers whether it is one for it, and writes into no list.
func changes() []func(v reflect.Value) bool {
	number := func(by int64) func(v reflect.Value) bool {
		return func(v reflect.Value) bool {
			if v.CanInt() {
				v.SetInt(v.Int() + by)
			}
			return v.CanInt()
		}
	}
	text := func(change func(s string) string) func(v reflect.Value) bool {
		return func(v reflect.Value) bool {
			if v.Kind() == reflect.String {
				v.SetString(change(v.String()))
			}
			return v.Kind() == reflect.String
		}
	}
	list := func(least int, change func(v reflect.Value)) func(v reflect.Value) bool {
		return func(v reflect.Value) bool {
			fits := v.Kind() == reflect.Slice && v.Len() >= least
			if fits {
				change(v)
			}
			return fits
		}
	}
	return []func(v reflect.Value) bool{
		number(1), number(-1), number(1 << 32), number(math.MinInt64),
		text(func(s string) string { return s + "x" }), text(func(s string) string { return "\x00" + s }), text(func(s string) string { return s[:len(s)/2] }), text(strings.ToUpper),
		list(1, func(v reflect.Value) { v.Set(v.Slice(0, v.Len()-1)) }),
		list(1, func(v reflect.Value) { v.Set(v.Slice(1, v.Len())) }),
		list(1, func(v reflect.Value) { v.SetZero() }),
		list(0, func(v reflect.Value) { v.Set(reflect.Append(v, reflect.Zero(v.Type().Elem()))) }),
		list(1, func(v reflect.Value) { v.Set(reflect.Append(v, v.Index(v.Len()-1))) }),
		list(2, func(v reflect.Value) {
			turned := reflect.MakeSlice(v.Type(), v.Len(), v.Len())
			reflect.Copy(turned, v)
			reflect.Swapper(turned.Interface())(0, v.Len()-1)
			v.Set(turned)
		}),
		func(v reflect.Value) bool {
			if v.CanFloat() {
				v.SetFloat(v.Float() + 1)
			}
			return v.CanFloat()
		},
		func(v reflect.Value) bool {
			if v.CanFloat() {
				v.SetFloat(-v.Float())
			}
			return v.CanFloat()
		},
		func(v reflect.Value) bool {
			if v.CanFloat() && v.Float() != v.Float() { // what is no number has other bits
				v.SetFloat(math.Float64frombits(0xFFF8000000000123))
			}
			return v.CanFloat()
		},
	}
}

// withoutNumbers takes the places in lists out of a path.
func withoutNumbers(path string) string {
	return strings.Map(func(r rune) rune {
		if r >= '0' && r <= '9' {
			return -1
		}
		return r
	}, path)
}

// P12.3: each part by itself, wherever it stands, makes another model of it, but for what value.Same leaves aside.
func TestSameEachPart(t *testing.T) {
	plain, m := filled(), filled()
	told := tell(plain)
	if !Same(plain, plain) || !Same(plain, m) {
		t.Fatal("not the same")
	}
	differ, alike := map[string]int{}, 0
	for _, part := range spotsOf(&m) {
		kept, before := reflect.New(part.v.Type()).Elem(), lay(part.v, false)
		kept.Set(part.v)
		for at, change := range changes() {
			if !change(part.v) || lay(part.v, false) == before {
				continue
			}
			want := tell(m) == told
			if Same(plain, m) != want || Same(m, plain) != want || !Same(m, m) {
				t.Fatalf("%s, change %d: not %v", part.path, at, want)
			}
			if inValue := strings.Contains(part.path, ".Init") || strings.Contains(part.path, ".V."); want && !inValue {
				t.Fatalf("%s, change %d: the test tells nothing", part.path, at)
			}
			if want {
				alike++
			} else {
				differ[withoutNumbers(part.path)]++
			}
			part.v.Set(kept)
		}
		part.v.Set(kept)
	}
	if tell(m) != told || alike < 100 || len(differ) < 80 {
		t.Error("hardly any of one side:", alike, len(differ))
	}
}

// P12.3: the fields one by one, by hand, in the first and in the last of a list.
func TestSameFields(t *testing.T) {
	for name, change := range map[string]func(m *api.Model, at int){
		"Labels":   func(m *api.Model, at int) { m.Labels++ },
		"Order":    func(m *api.Model, at int) { m.Order[at][1]++ },
		"OrderLow": func(m *api.Model, at int) { m.Order[at][0]++ },
		"Grants":   func(m *api.Model, at int) { m.Grants[at][0]++ },
		"GrantsUp": func(m *api.Model, at int) { m.Grants[at][1]++ },
		"Pairs":    func(m *api.Model, at int) { m.Order, m.Grants = m.Grants, m.Order },
		"VarName":  func(m *api.Model, at int) { m.Vars[at].Name = "other" },
		"VarLabel": func(m *api.Model, at int) { m.Vars[at].Label = -1 },
		"VarType":  func(m *api.Model, at int) { m.Vars[at].Type.Items[1].Items[0].Kind = api.TList },
		"VarInit":  func(m *api.Model, at int) { m.Vars[at].Init = api.Value{} },
		"MsgName":  func(m *api.Model, at int) { m.Msgs[at].Name = "" },
		"MsgLabel": func(m *api.Model, at int) { m.Msgs[at].Label++ },
		"MsgKey":   func(m *api.Model, at int) { m.Msgs[at].Key.Names[0] = "other" },
		"MsgBody":  func(m *api.Model, at int) { m.Msgs[at].Body = api.Type{} },
		"KeyBody":  func(m *api.Model, at int) { m.Msgs[at].Key, m.Msgs[at].Body = m.Msgs[at].Body, m.Msgs[at].Key },
		"Kind":     func(m *api.Model, at int) { m.Nodes[at].Kind = 0 },
		"Label":    func(m *api.Model, at int) { m.Nodes[at].Label++ },
		"Next":     func(m *api.Model, at int) { m.Nodes[at].Next[at]++ },
		"NextLess": func(m *api.Model, at int) { m.Nodes[at].Next = m.Nodes[at].Next[:2] },
		"Cond":     func(m *api.Model, at int) { m.Nodes[at].Conds[at].S += "o" },
		"CondLess": func(m *api.Model, at int) { m.Nodes[at].Conds = m.Nodes[at].Conds[:2] },
		"CondMore": func(m *api.Model, at int) { m.Nodes[at].Conds = append(m.Nodes[at].Conds, api.Expr{}) },
		"Expr":     func(m *api.Model, at int) { m.Nodes[at].Expr.V.F = -0.5 },
		"ExprNone": func(m *api.Model, at int) { m.Nodes[at].Expr = api.Expr{} },
		"Body":     func(m *api.Model, at int) { m.Nodes[at].Body.Kids[0].Kids[0].Kids[0].Kids[1].V.S = "o" },
		"ExprBody": func(m *api.Model, at int) { m.Nodes[at].Expr, m.Nodes[at].Body = m.Nodes[at].Body, m.Nodes[at].Expr },
		"Var":      func(m *api.Model, at int) { m.Nodes[at].Var++ },
		"Msg":      func(m *api.Model, at int) { m.Nodes[at].Msg++ },
		"Catch":    func(m *api.Model, at int) { m.Nodes[at].Catch = -1 },
		"Wait":     func(m *api.Model, at int) { m.Nodes[at].Wait++ },
		"From":     func(m *api.Model, at int) { m.Nodes[at].From++ },
		"VarMsg":   func(m *api.Model, at int) { n := &m.Nodes[at]; n.Var, n.Msg = n.Msg, n.Var },
		"Less":     func(m *api.Model, at int) { m.Nodes = slices.Delete(m.Nodes, at, at+1) },
		"VarsLess": func(m *api.Model, at int) { m.Vars = slices.Delete(m.Vars, at, at+1) },
		"MsgsLess": func(m *api.Model, at int) { m.Msgs = slices.Delete(m.Msgs, at, at+1) },
		"OrdLess":  func(m *api.Model, at int) { m.Order = slices.Delete(m.Order, at, at+1) },
		"GrLess":   func(m *api.Model, at int) { m.Grants = slices.Delete(m.Grants, at, at+1) },
		"More":     func(m *api.Model, at int) { m.Nodes = append(m.Nodes, m.Nodes[at]) },
	} {
		for _, at := range []int{0, 2} {
			m := filled()
			change(&m, at)
			if Same(filled(), m) || Same(m, filled()) {
				t.Error(name, "at", at, "isn't told")
			}
		}
	}
}

// P12.3: values as value.Same tells them, in a variable and in an expression.
func TestSameValues(t *testing.T) {
	float := func(bits uint64) api.Value { return api.Value{Kind: api.VFloat, F: math.Float64frombits(bits)} }
	values := []api.Value{{}, float(0), float(1 << 63), float(0x7FF8000000000001), float(0xFFF8000000000000), float(0x7FF0000000000001), float(0x7FF0000000000000), float(1), {Kind: api.VInt}, {Kind: api.VInt, F: 3}, {Kind: api.VInt, S: "x"}, {Kind: api.VBool}, {Kind: api.VStr}, {Kind: api.VStr, N: 3}, {Kind: api.VList}, {Kind: api.VList, Names: []string{"x"}}, {Kind: api.VRec}, {Kind: api.VRec, Names: []string{"x"}}, {Kind: 9}, {Kind: 9, F: 1}, {Kind: 9, N: 1}, {N: 1}, {F: math.NaN()}}
	for _, a := range values {
		for _, b := range values {
			want := tellValue(a) == tellValue(b)
			if inVar := func(v api.Value) api.Model { return api.Model{Vars: []api.Var{{Init: v}}} }; Same(inVar(a), inVar(b)) != want {
				t.Errorf("as Init: %+v and %+v: not %v", a, b, want)
			}
			for at := range 3 {
				if Same(holding(at, a), holding(at, b)) != want || Same(Own(holding(at, a)), holding(at, b)) != want {
					t.Errorf("in an expression: %+v and %+v: not %v", a, b, want)
				}
			}
		}
	}
}

// holding is a model with a value in a node's Expr, Body or Conds.
func holding(at int, v api.Value) api.Model {
	x := api.Expr{Kind: api.EList, Kids: []api.Expr{{Kind: api.EConst, V: v}}}
	return api.Model{Nodes: []api.Node{[]api.Node{{Expr: x}, {Body: x}, {Conds: []api.Expr{x}}}[at]}}
}

// emptied makes an empty list of each nil, and nil of each empty list.
func emptied(v reflect.Value) {
	if v.Kind() == reflect.Slice && v.Len() == 0 {
		if v.IsNil() {
			v.Set(reflect.MakeSlice(v.Type(), 0, 0))
		} else {
			v.SetZero()
		}
	}
	for _, part := range []reflect.Kind{reflect.Slice, reflect.Array} {
		if v.Kind() == part {
			for i := range v.Len() {
				emptied(v.Index(i))
			}
		}
	}
	if v.Kind() == reflect.Struct {
		for i := range v.NumField() {
			emptied(v.Field(i))
		}
	}
}

// Rule 4: nil and an empty list are one.
func TestNilIsEmpty(t *testing.T) {
	for _, build := range []func() api.Model{filled, func() api.Model { return api.Model{} }, func() api.Model {
		return api.Model{Vars: make([]api.Var, 2), Msgs: make([]api.Msg, 2), Nodes: make([]api.Node, 2)}
	}} {
		m, other := build(), build()
		emptied(reflect.ValueOf(&other).Elem())
		if !Same(m, other) || !Same(other, m) || !Same(Own(other), m) || !Same(Own(m), other) || tell(m) != tell(other) {
			t.Error("empty lists are told")
		}
		sameList(t, "edges", Edges(other), Edges(m))
		for node := range m.Nodes {
			sameList(t, "into", Into(other, node), Into(m, node))
			sameList(t, "reach", Reach(other, node), Reach(m, node))
			if !slices.EqualFunc(Exprs(other.Nodes[node]), Exprs(m.Nodes[node]), parse.Same) || Out(m, node, 0) != Out(other, node, 0) {
				t.Error("expressions, or a way out")
			}
		}
	}
	if !Same(api.Model{}, api.Model{Order: [][2]int{}, Grants: make([][2]int, 0, 4), Vars: []api.Var{}, Msgs: []api.Msg{}, Nodes: []api.Node{}}) {
		t.Error("nothing")
	}
}

// P12.2: a node's expressions, one by one.
func TestExprsPlain(t *testing.T) {
	none := api.Expr{}
	a, b, c, d := expr("a"), expr("b+1"), expr("[c]"), expr("true")
	for i, check := range []struct {
		conds      []api.Expr
		expr, body api.Expr
		want       []api.Expr
	}{
		{nil, none, none, nil}, {[]api.Expr{}, none, none, nil}, {nil, a, none, []api.Expr{a}}, {nil, none, a, []api.Expr{a}}, {nil, b, a, []api.Expr{b, a}}, {nil, a, a, []api.Expr{a, a}},
		{[]api.Expr{a}, none, none, []api.Expr{a}}, {[]api.Expr{c, a, b}, none, none, []api.Expr{c, a, b}}, {[]api.Expr{c, b}, a, none, []api.Expr{c, b, a}}, {[]api.Expr{c, b}, none, a, []api.Expr{c, b, a}}, {[]api.Expr{d, c}, b, a, []api.Expr{d, c, b, a}}, {[]api.Expr{a, a}, a, a, []api.Expr{a, a, a, a}},
		{[]api.Expr{none, a, none, none, b, none}, c, d, []api.Expr{a, b, c, d}}, {[]api.Expr{none}, none, a, []api.Expr{a}}, {[]api.Expr{none, none}, none, none, nil},
	} {
		got := Exprs(api.Node{Conds: check.conds, Expr: check.expr, Body: check.body})
		if !slices.EqualFunc(got, check.want, func(a, b api.Expr) bool { return exactly(a) == exactly(b) }) {
			t.Errorf("%d: %v, not %v", i, got, check.want)
		}
	}
}

// P12.2: what is there is told by the Kind alone, of the expression as of the node; whatever is there is told as it is.
func TestExprsKinds(t *testing.T) {
	for _, kind := range []int{math.MinInt, -300, -2, -1, 0, 1, 2, 15, 17, 22, 23, 24, 25, 300, 1 << 32, math.MaxInt} {
		for at := range 5 {
			for _, odd := range []api.Expr{{Kind: kind}, filledExpr(kind, "x"), {Kind: kind, S: "x"}, {Kind: kind, V: api.Value{Kind: api.VInt}}, {Kind: kind, Kids: exprs("a", "1")}, {Kind: kind, Names: []string{"", "a"}}} {
				n := api.Node{Kind: kind, Label: 2, Next: []int{1}, Conds: exprs("1", "2", "3"), Expr: expr("4"), Body: expr("5"), Var: 1, Msg: 1, Catch: 1, Wait: 1, From: 1}
				var want string
				for i, x := range []*api.Expr{&n.Conds[0], &n.Conds[1], &n.Conds[2], &n.Expr, &n.Body} {
					if i == at {
						*x = odd
					}
					if i != at || kind != 0 {
						want += exactly(*x) + ";"
					}
				}
				if got := strings.TrimSuffix(strings.TrimPrefix(tellEach(Exprs(n), func(x api.Expr) string { return exactly(x) }), "("), ")"); got != want {
					t.Fatalf("kind %d at %d: %s, not %s", kind, at, got, want)
				}
			}
		}
	}
}

// P12.2, P12.3: many conditions, and expressions with as much within one another as there may be.
func TestExprsMany(t *testing.T) {
	n := api.Node{Conds: slices.Repeat([]api.Expr{expr("a"), {S: "none"}}, 5000), Body: expr("b")}
	got := Exprs(n)
	if len(got) != 5001 || got[4999].S != "a" || got[5000].S != "b" {
		t.Error("many:", len(got))
	}
	deep := expr("x")
	for range 1<<16 - 2 {
		deep = api.Expr{Kind: api.ENeg, Kids: []api.Expr{deep}}
	}
	n = api.Node{Conds: []api.Expr{deep}, Expr: deep}
	m := api.Model{Nodes: []api.Node{n}}
	if own := Own(m); len(Exprs(n)) != 2 || !Same(own, m) || !parse.Same(Exprs(n)[1], deep) {
		t.Error("deep")
	}
}

// Rules 5, 7: a node's expressions are new memory, and the node stays.
func TestExprsAreNew(t *testing.T) {
	m := filled()
	withRoom(&m)
	for _, n := range m.Nodes {
		before := laidOpen(n)
		got := Exprs(n)
		checkNew(t, got, n)
		again := Exprs(n)
		checkNew(t, again, got, n)
		told := exactly(again)
		scribble(&got)
		if laidOpen(n) != before || exactly(Exprs(n)) != told || exactly(again) != told {
			t.Fatal("what was handed in became another one, or another answer comes")
		}
		scribble(&n)
		if exactly(again) != told {
			t.Fatal("an answer became another one")
		}
	}
	twice := filledExpr(api.EIf, "x") // the same memory in each place of the node
	n := api.Node{Conds: []api.Expr{twice, twice}, Expr: twice, Body: twice}
	checkNew(t, Exprs(n), n)
	checkNew(t, Own(api.Model{Nodes: []api.Node{n, n}}), n)
}

// checkOwn holds a model's copy against it, and writes over each of the two; it asks for a pointer, as the model is written over.
func checkOwn(t *testing.T, m *api.Model) {
	t.Helper()
	before := laidOpen(*m)
	own, again := Own(*m), Own(*m)
	if exactly(own) != exactly(*m) || tell(own) != tell(*m) || !Same(own, *m) || !Same(*m, own) {
		t.Fatal("another one")
	}
	checkNew(t, own, *m, again)
	scribble(&own)
	if laidOpen(*m) != before || exactly(again) != exactly(*m) {
		t.Fatal("what was handed in became another one")
	}
	want := laidOpen(again)
	scribble(m)
	if laidOpen(again) != want {
		t.Fatal("a copy became another one")
	}
}

// P12.3, rules 5, 7: a copy is the same, in memory of its own.
func TestOwn(t *testing.T) {
	checkOwn(t, &api.Model{})
	m := filled()
	checkOwn(t, &m)
	m = filled()
	withRoom(&m)
	checkOwn(t, &m)
	plain := filled()
	for i, part := range spotsOf(&plain) { // room in one list alone, and those in it
		if part.v.Kind() == reflect.Slice {
			m = filled()
			withRoomIn(spotsOf(&m)[i].v)
			checkOwn(t, &m)
		}
	}
	parts := filled() // the same memory in each of a list
	m = api.Model{Labels: 1, Order: parts.Order, Grants: parts.Order, Vars: []api.Var{parts.Vars[0], parts.Vars[0]}, Msgs: []api.Msg{parts.Msgs[1], parts.Msgs[1]}, Nodes: []api.Node{parts.Nodes[0], parts.Nodes[0]}}
	m.Msgs[0].Key = m.Msgs[0].Body
	m.Nodes[0].Body = m.Nodes[0].Expr
	own := Own(m)
	checkNew(t, own, m)
	if exactly(own) != exactly(m) {
		t.Error("another one")
	}
}

// Rule 4: a copy's empty lists are none that share.
func TestOwnEmpty(t *testing.T) {
	m := api.Model{Order: make([][2]int, 0, 3), Grants: make([][2]int, 0, 3), Vars: make([]api.Var, 0, 3), Msgs: make([]api.Msg, 0, 3), Nodes: make([]api.Node, 0, 3)}
	own := Own(m)
	checkNew(t, own, m)
	if exactly(own) != exactly(m) || laidOpen(append(own.Nodes, api.Node{Kind: 3})) == "" || m.Nodes[:1][0].Kind != 0 {
		t.Error("empty lists")
	}
}

// anyValue, as those that follow, draws from few things.
func anyValue(r *rand.Rand, depth int) api.Value {
	v := api.Value{Kind: r.Intn(9) - 1, N: int64(r.Intn(2)), F: []float64{0, 0, math.Copysign(0, -1), math.NaN()}[r.Intn(4)], S: []string{"", "", "s"}[r.Intn(3)]}
	for depth > 0 && r.Intn(3) == 0 {
		v.Names = append(v.Names, []string{"a", "b"}[r.Intn(2)])
		v.Items = append(v.Items, anyValue(r, depth-1))
	}
	return v
}

func anyType(r *rand.Rand, depth int) api.Type {
	t := api.Type{Kind: r.Intn(8)}
	for depth > 0 && r.Intn(3) == 0 {
		t.Names = append(t.Names, []string{"a", "b"}[r.Intn(2)])
		t.Items = append(t.Items, anyType(r, depth-1))
	}
	return t
}

func anyNodeExpr(r *rand.Rand, depth int) api.Expr {
	x := api.Expr{Kind: r.Intn(4) * r.Intn(8), S: []string{"", "x"}[r.Intn(2)]}
	if r.Intn(3) == 0 {
		x.V = anyValue(r, 2)
	}
	for depth > 0 && r.Intn(3) == 0 {
		x.Names = append(x.Names, []string{"a", "b"}[r.Intn(2)])
		x.Kids = append(x.Kids, anyNodeExpr(r, depth-1))
	}
	return x
}

func anyModel(r *rand.Rand) api.Model {
	m := api.Model{Labels: r.Intn(2)}
	few := func() int { return max(0, r.Intn(4)-1) }
	for range few() {
		m.Order = append(m.Order, [2]int{r.Intn(2), r.Intn(2)})
	}
	for range few() {
		m.Grants = append(m.Grants, [2]int{r.Intn(2), r.Intn(2)})
	}
	for range few() {
		m.Vars = append(m.Vars, api.Var{Name: []string{"x", "y"}[r.Intn(2)], Label: r.Intn(2), Type: anyType(r, 2), Init: anyValue(r, 2)})
	}
	for range few() {
		m.Msgs = append(m.Msgs, api.Msg{Name: []string{"x", "y"}[r.Intn(2)], Label: r.Intn(2), Key: anyType(r, 1), Body: anyType(r, 2)})
	}
	for range few() {
		n := api.Node{Kind: r.Intn(14), Label: r.Intn(2), Var: r.Intn(3) - 1, Msg: r.Intn(3) - 1, Catch: r.Intn(3) - 1, Wait: r.Intn(2), From: r.Intn(2), Expr: anyNodeExpr(r, 2), Body: anyNodeExpr(r, 1)}
		for range few() {
			n.Next = append(n.Next, r.Intn(3))
			n.Conds = append(n.Conds, anyNodeExpr(r, 1))
		}
		m.Nodes = append(m.Nodes, n)
	}
	return m
}

// P12.3: models of any shape, each held against a copy in which up to three parts are others.
func TestSameMany(t *testing.T) {
	r := rand.New(rand.NewSource(4))
	count := map[bool]int{}
	for range 20000 {
		seed := r.Int63()
		a, b := anyModel(rand.New(rand.NewSource(seed))), anyModel(rand.New(rand.NewSource(seed)))
		for range r.Intn(4) {
			all := spotsOf(&b)
			changes()[r.Intn(17)](all[r.Intn(len(all))].v)
		}
		want := tell(a) == tell(b)
		count[want]++
		if Same(a, b) != want || Same(b, a) != want || Same(Own(a), b) != want {
			t.Fatalf("not %v: %s, %s", want, tell(a), tell(b))
		}
		if !Same(Own(b), b) {
			t.Fatal("a copy isn't the same:", tell(b))
		}
	}
	if count[true] < 2000 || count[false] < 2000 {
		t.Error("hardly any of one side:", count)
	}
	for range 1500 {
		m := anyModel(r)
		if r.Intn(2) == 0 {
			withRoom(&m)
		}
		checkOwn(t, &m)
	}
}

// Rule 5: whatever is asked of a model, it stays as it was, its spare room too.
func TestModelsStay(t *testing.T) {
	r := rand.New(rand.NewSource(5))
	models := []api.Model{filled(), graph("1 2 ^1 | 2 ^0 | 0 -1 ^9")}
	for range 200 {
		models = append(models, anyModel(r))
	}
	for _, m := range models {
		withRoom(&m)
		before := laidOpen(m)
		for node := -1; node <= len(m.Nodes); node++ {
			Edges(m)
			Into(m, node)
			Reach(m, node)
			for port := -1; port < 5; port++ {
				Out(m, node, port)
			}
			if node >= 0 && node < len(m.Nodes) {
				Exprs(m.Nodes[node])
			}
		}
		other := Own(m)
		withRoom(&other)
		told := laidOpen(other)
		Same(m, other)
		Same(other, m)
		if laidOpen(m) != before || laidOpen(other) != told {
			t.Fatal("what was handed in became another one")
		}
	}
}
