package pack

import (
	"encoding/hex"
	"fmt"
	"math"
	"math/rand"
	"reflect"
	"slices"
	"strings"
	"testing"

	"bascule/api"
	"bascule/model"
	"bascule/parse"
	"bascule/value"
)

// raw answers the bytes that hexadecimal digits say.
func raw(digits string) string {
	b, err := hex.DecodeString(strings.ReplaceAll(digits, " ", ""))
	if err != nil {
		panic(err)
	}
	return string(b)
}

// short cuts what a message tells.
func short(s string) string { return fmt.Sprintf("%.200x", s) }

// checkNoPack wants an error alone.
func checkNoPack(t *testing.T, m api.Model, want api.Errno) {
	t.Helper()
	if s, e := Pack(m); s != "" || e != want {
		t.Fatalf("written: %s, error %d, not %d", short(s), e, want)
	}
}

// checkNoModel wants an error alone.
func checkNoModel(t *testing.T, s string, want api.Errno) {
	t.Helper()
	if m, e := Unpack(s); !isNothing(m) || e != want {
		t.Fatalf("%s: %+v, error %d, not %d", short(s), m, e, want)
	}
}

// checkRead wants bytes to be a model's, and what was read to be written as they are.
func checkRead(t *testing.T, s string, want api.Model) {
	t.Helper()
	m, e := Unpack(s)
	if e != api.OK || !alike(m, want) || !model.Same(m, want) {
		t.Fatalf("%s: %+v, error %d, not %+v", short(s), m, e, want)
	}
	if again, e := Pack(m); e != api.OK || again != s {
		t.Fatalf("%s is written again as %s, error %d", short(s), short(again), e)
	}
}

// checkModel wants a model, with floats that are canonical, and bytes to be each other's.
func checkModel(t *testing.T, m api.Model, want string) {
	t.Helper()
	if s, e := Pack(m); s != want || e != api.OK {
		t.Fatalf("%+v: %s, error %d, not %s", m, short(s), e, short(want))
	}
	checkRead(t, want, m)
}

// checkNeither wants a model not to be written, nor what would be written of it to be read.
func checkNeither(t *testing.T, m api.Model) {
	t.Helper()
	checkNoPack(t, m, api.ErrForm)
	want := api.ErrForm
	if len(spellModel(m)) > 1<<14 {
		want = api.ErrFull
	}
	checkNoModel(t, spellModel(m), want)
}

// P13.1: models in plain bytes.
func TestModelBytes(t *testing.T) {
	const start = "42 50 4D 31 "
	checkModel(t, api.Model{}, raw(start+"00 00 00 00 00 00"))
	checkModel(t, api.Model{Labels: 10000}, raw(start+"90 4E 00 00 00 00 00"))
	checkModel(t, api.Model{Order: [][2]int{{1, 2}, {128, 0}}}, raw(start+"00 02 01 02 80 01 00 00 00 00 00"))
	checkModel(t, api.Model{Grants: [][2]int{{1, 2}}}, raw(start+"00 00 01 01 02 00 00 00"))
	checkModel(t, api.Model{Vars: []api.Var{{Name: "ab", Label: 3, Type: typ(api.TFloat), Init: flo(1.5)}}}, raw(start+"00 00 00 01 02 61 62 03 03 03 3F F8 00 00 00 00 00 00 00 00"))
	checkModel(t, api.Model{Msgs: []api.Msg{{Name: "m", Label: 1, Key: typ(api.TInt), Body: listOf(typ(api.TNone))}}}, raw(start+"00 00 00 00 01 01 6D 01 02 05 07 00"))
	checkModel(t, api.Model{Nodes: []api.Node{{Var: -1, Msg: -1, Catch: -1}}}, raw(start+"00 00 00 00 00 01 00 00 00 00 00 00 00 00 00 00 00"))
	checkModel(t, api.Model{Nodes: []api.Node{{}}}, raw(start+"00 00 00 00 00 01 00 00 00 00 00 00 01 01 01 00 00"))
	checkModel(t, api.Model{
		Labels: 2, Order: [][2]int{{0, 1}}, Grants: [][2]int{{1, 0}},
		Vars:  []api.Var{{Name: "x", Label: 1, Type: typ(api.TInt), Init: num(-3)}},
		Msgs:  []api.Msg{{Name: "\x00", Label: 0, Key: typ(api.TStr), Body: typ(api.TBool)}},
		Nodes: []api.Node{{Kind: 4, Label: 1, Next: []int{1, 300}, Conds: []api.Expr{expr("a < 1"), {}}, Body: expr("1"), Var: -1, Msg: 0, Catch: 9999, Wait: 1000, From: 1}, {Kind: 1, Next: []int{0}, Expr: expr("b"), Var: 5, Msg: 6, Catch: 7, Wait: 8, From: 9}},
	}, raw(start+"02 01 00 01 01 01 00 01 01 78 01 02 02 05 01 01 00 00 04 01 02 04 01 02 01 AC 02 02 05 28 61 3C 31 29 00 00 01 31 00 01 90 4E E8 07 01 01 00 01 00 00 01 62 00 06 07 08 08 09"))
	checkModel(t, full(), spellModel(full()))
}

// placesOf names each number of a full model by itself, of each list in its first thing and in its last one.
func placesOf(m *api.Model) map[string]*int {
	all := map[string]*int{"Labels": &m.Labels}
	for at, name := range []string{"first", "last"} {
		order, grant := &m.Order[at*(len(m.Order)-1)], &m.Grants[at*(len(m.Grants)-1)]
		node := &m.Nodes[at]
		for field, n := range map[string]*int{
			"Order from": &order[0], "Order to": &order[1], "Grant from": &grant[0], "Grant to": &grant[1], "Var.Label": &m.Vars[at].Label, "Msg.Label": &m.Msgs[at].Label,
			"Kind": &node.Kind, "Label": &node.Label, "Next": &node.Next[at*(len(node.Next)-1)], "Wait": &node.Wait, "From": &node.From,
			"+ Var": &node.Var, "+ Msg": &node.Msg, "+ Catch": &node.Catch, // of which one more is written
		} {
			all[field+", "+name] = n
		}
	}
	return all
}

// P13.1: each number of a model by itself.
func TestModelNumbers(t *testing.T) {
	least := full()
	for name := range placesOf(&least) {
		low, high := 0, 10000
		if strings.HasPrefix(name, "+") {
			low, high = -1, 9999
		}
		for _, n := range []int{low, low + 1, 126, 127, 128, 129, 5000, high - 1, high} {
			m := full()
			*placesOf(&m)[name] = n
			checkModel(t, m, spellModel(m))
		}
		for _, n := range []int{low - 1, low - 2, -200, high + 1, high + 2, 16384, math.MaxInt32, math.MinInt32, 1 << 32, 1<<32 + 1, -1 << 32, math.MaxInt, math.MaxInt - 1, math.MinInt, math.MinInt + 1} {
			m := full()
			*placesOf(&m)[name] = n
			checkNeither(t, m)
		}
	}
}

// sized makes a list of n things by repeating one.
func sized[T any](n int, thing T) []T { return slices.Repeat([]T{thing}, n) }

// lists gives each list of a model so many things.
func lists() map[string]func(m *api.Model, n int) {
	all := map[string]func(m *api.Model, n int){
		"Order":  func(m *api.Model, n int) { m.Order = sized(n, [2]int{1, 2}) },
		"Grants": func(m *api.Model, n int) { m.Grants = sized(n, [2]int{1, 2}) },
		"Vars":   func(m *api.Model, n int) { m.Vars = sized(n, m.Vars[0]) },
		"Msgs":   func(m *api.Model, n int) { m.Msgs = sized(n, m.Msgs[0]) },
		"Nodes":  func(m *api.Model, n int) { m.Nodes = sized(n, m.Nodes[0]) },
	}
	for node := range 2 {
		all[fmt.Sprint("Next of ", node)] = func(m *api.Model, n int) { m.Nodes[node].Next = sized(n, 7) }
		all[fmt.Sprint("Conds of ", node)] = func(m *api.Model, n int) { m.Nodes[node].Conds = sized(n, expr("a")) }
		all[fmt.Sprint("Conds of none of ", node)] = func(m *api.Model, n int) { m.Nodes[node].Conds = sized(n, api.Expr{}) }
	}
	return all
}

// P13.1: each list by itself, of 0, of 64, and of more things.
func TestLists(t *testing.T) {
	for _, give := range lists() {
		for _, n := range []int{0, 1, 2, 63, 64} {
			m := full()
			give(&m, n)
			checkModel(t, m, spellModel(m))
		}
		for _, n := range []int{65, 66, 127, 128, 129, 192, 256, 300} {
			m := full()
			give(&m, n)
			checkNeither(t, m)
		}
		for _, n := range []int{10000, 10001, 1 << 16, 1<<16 + 1} {
			m := full()
			give(&m, n)
			checkNoPack(t, m, api.ErrForm)
		}
	}
	for name, give := range lists() { // nil and an empty list are one
		m, empty := full(), full()
		give(&m, 0)
		give(&empty, 0)
		emptied(reflect.ValueOf(&empty).Elem(), true)
		emptied(reflect.ValueOf(&m).Elem(), false)
		a, e := Pack(m)
		b, e2 := Pack(empty)
		if a != b || e != api.OK || e2 != api.OK {
			t.Error(name, "empty or nil")
		}
	}
}

// emptied makes nil of each empty list, or none of nil.
func emptied(v reflect.Value, there bool) {
	switch v.Kind() {
	case reflect.Slice:
		if v.Len() == 0 && there {
			v.Set(reflect.MakeSlice(v.Type(), 0, 2))
		} else if v.Len() == 0 {
			v.SetZero()
		}
		for i := range v.Len() {
			emptied(v.Index(i), there)
		}
	case reflect.Struct:
		for i := range v.NumField() {
			emptied(v.Field(i), there)
		}
	}
}

// P13.1: names are any bytes, 30 of them at most.
func TestNames(t *testing.T) {
	names := map[string]func(m *api.Model) *string{
		"variable": func(m *api.Model) *string { return &m.Vars[0].Name }, "last variable": func(m *api.Model) *string { return &m.Vars[1].Name },
		"message": func(m *api.Model) *string { return &m.Msgs[0].Name }, "last message": func(m *api.Model) *string { return &m.Msgs[1].Name },
	}
	for _, name := range names {
		with := func(s string) api.Model {
			m := full()
			*name(&m) = s
			return m
		}
		right := []string{"", "a", "A b", "len", "true", "é", "\xc3", "BPM1", "1", x("n", 29), x("n", 30), x("\xff", 30), x("\x00", 30), x("é", 15)}
		for b := range 256 {
			right = append(right, string([]byte{byte(b)}), string([]byte{'a', byte(b), byte(b)}))
		}
		for _, s := range right {
			checkModel(t, with(s), spellModel(with(s)))
		}
		for _, s := range []string{x("n", 31), x("\x00", 31), x("é", 16), x("n", 32), x("n", 127), x("n", 128), x("n", 158), x("n", 200), x("n", 256), x("n", 286)} {
			checkNeither(t, with(s))
		}
		checkNoPack(t, with(x("n", 1<<20)), api.ErrForm)
	}
}

// exprPlaces are where a model has expressions.
func exprPlaces() []func(m *api.Model) *api.Expr {
	var all []func(m *api.Model) *api.Expr
	for node := range 2 {
		all = append(all,
			func(m *api.Model) *api.Expr { return &m.Nodes[node].Conds[0] },
			func(m *api.Model) *api.Expr { return &m.Nodes[node].Conds[node+1] },
			func(m *api.Model) *api.Expr { return &m.Nodes[node].Expr },
			func(m *api.Model) *api.Expr { return &m.Nodes[node].Body })
	}
	return all
}

// P13.1: expressions that are none: of Kind 0, and nothing else in them.
func TestNoExpr(t *testing.T) {
	one := []api.Value{num(1)}
	for _, place := range exprPlaces() {
		for _, none := range []api.Expr{{}, {Names: []string{}, Kids: []api.Expr{}}, {Names: make([]string, 0, 3), Kids: make([]api.Expr, 0, 3), V: api.Value{Names: make([]string, 0, 3), Items: make([]api.Value, 0, 3)}}} {
			m := full()
			*place(&m) = none
			checkModel(t, m, spellModel(m))
		}
		for _, some := range []api.Expr{
			{S: "x"}, {S: "\x00"}, {Names: []string{""}}, {Names: []string{"a"}}, {Kids: []api.Expr{{}}}, {Kids: exprs("a")}, {S: "x", Names: []string{"a"}, Kids: exprs("a")},
			{V: api.Value{Kind: 1}}, {V: api.Value{Kind: -1}}, {V: api.Value{Kind: 9}}, {V: num(0)}, {V: num(3)}, {V: str("")}, {V: list()}, {V: flo(0)}, {V: api.Value{N: 1}}, {V: api.Value{N: math.MinInt64}}, {V: api.Value{S: "x"}}, {V: api.Value{Names: []string{""}}}, {V: api.Value{Items: make([]api.Value, 1)}}, {V: api.Value{Names: []string{"a"}, Items: one}},
			{V: api.Value{F: 1}}, {V: api.Value{F: math.Copysign(0, -1)}}, {V: api.Value{F: math.NaN()}}, {V: api.Value{F: math.Inf(1)}}, {V: api.Value{F: math.SmallestNonzeroFloat64}},
		} {
			m := full()
			*place(&m) = some
			checkNoPack(t, m, api.ErrForm)
		}
	}
}

// endlessExpr has itself within itself.
func endlessExpr(kind int) api.Expr {
	x := api.Expr{Kind: kind, Kids: make([]api.Expr, 2)}
	x.Kids[0], x.Kids[1] = x, x
	return x
}

// P13.1: expressions that aren't right.
func TestWrongExpr(t *testing.T) {
	deep := expr("a")
	for range 12 {
		deep = api.Expr{Kind: api.ENeg, Kids: []api.Expr{deep}}
	}
	for _, place := range exprPlaces() {
		for _, wrong := range []api.Expr{
			{Kind: -1}, {Kind: 24}, {Kind: 256 + api.EList}, {Kind: api.EConst}, {Kind: api.EVar}, {Kind: api.EVar, S: "len"}, {Kind: api.EVar, S: "A"}, {Kind: api.EVar, S: x("v", 31)}, {Kind: api.EVar, S: "a", V: api.Value{F: math.Copysign(0, -1)}}, {Kind: api.EVar, S: "a", Kids: exprs("a")},
			{Kind: api.EConst, V: num(-1)}, {Kind: api.EConst, V: flo(math.Copysign(0, -1))}, {Kind: api.EConst, V: flo(-1)}, {Kind: api.EConst, V: floBits(0x7FF8000000000001)}, {Kind: api.EConst, V: list()}, {Kind: api.EConst, V: truth(2)}, constant(x("s", 201)),
			{Kind: api.EAdd, Kids: exprs("a")}, {Kind: api.ENeg, Kids: []api.Expr{{}}}, {Kind: api.EIf, Kids: exprs("a", "b")}, {Kind: api.ERec, Names: []string{"b", "a"}, Kids: exprs("a", "b")}, {Kind: api.ERec, Names: []string{"nan"}, Kids: exprs("a")}, {Kind: api.EField, S: "inf", Kids: exprs("a")},
			deep, {Kind: api.EList, Kids: sized(200, expr("a"))}, endlessExpr(api.EAdd), endlessExpr(api.EList), endlessExpr(0), endlessExpr(24),
		} {
			m := full()
			*place(&m) = wrong
			checkNoPack(t, m, api.ErrForm)
		}
		m := full()
		*place(&m) = deep.Kids[0] // 12 within one another
		checkModel(t, m, spellModel(m))
	}
}

// P13.1: expressions of which the text has 2000 bytes, and more.
func TestExprTexts(t *testing.T) {
	for _, place := range exprPlaces() {
		with := func(x api.Expr) api.Model {
			m := full()
			*place(&m) = x
			return m
		}
		for _, n := range []int{4, 126, 127, 128, 129, 1998, 1999, 2000} {
			if s, _ := parse.Text(ofText(n)); len(s) != n {
				t.Fatal("the test's own: a text of", len(s), "not", n)
			}
			checkModel(t, with(ofText(n)), spellModel(with(ofText(n))))
		}
		for _, n := range []int{2001, 2002, 2047, 2048, 4000, 16384} {
			checkNeither(t, with(ofText(n)))
		}
		quotes := api.Expr{Kind: api.EList, Kids: sized(4, constant(x(`"`, 200)))} // each is written as two bytes
		checkModel(t, with(quotes), spellModel(with(quotes)))
		quotes.Kids = append(quotes.Kids, quotes.Kids[0])
		checkNeither(t, with(quotes))
	}
	m := full()
	for _, text := range []string{"0", "true", "nan", "inf", "0p0", `"\\"`, "[]", "{}", "{a:1,true:2}", "(-9223372036854775807)", "(a.b[0]?(-1):(!c))", "str(len(int(float(x))))", "(1).a", "(\"\x00\xff\"==\"é\")", "((a%b)&&((a/b)||(c<=d)))"} {
		m.Nodes[1].Body = expr(text)
		checkModel(t, m, spellModel(m))
	}
}

func endlessValue() api.Value {
	v := list(num(1), api.Value{})
	v.Items[1] = v
	return v
}

func endlessType() api.Type {
	t := listOf(api.Type{})
	t.Items[0] = t
	return t
}

// wrongValues are none; that of Kind 0 alone may stand where there may be none.
func wrongValues() []api.Value {
	return []api.Value{
		{Kind: -1}, {Kind: 7}, {Kind: 256 + api.VInt}, {Kind: math.MinInt}, truth(2), truth(-1), {Kind: api.VInt, S: "x"}, {Kind: api.VInt, F: math.Copysign(0, -1)}, {Kind: api.VFloat, N: 1}, {Kind: api.VList, Names: []string{"a"}}, str(x("s", 201)),
		rec("a"), rec("a", num(1), num(2)), rec("b a", num(1), num(2)), rec("a a", num(1), num(2)), rec("A", num(1)), rec(x("n", 31), num(1)), list(num(1), api.Value{}), rec("a", list(truth(2))), list(sized(200, num(1))...), nestedList(13), endlessValue(),
	}
}

func nestedList(depth int) api.Value {
	v := list()
	for range depth - 1 {
		v = list(v)
	}
	return v
}

func rightValues() []api.Value {
	return []api.Value{truth(0), truth(1), num(0), num(math.MaxInt64), num(math.MinInt64), flo(0), flo(math.Copysign(0, -1)), flo(math.Inf(-1)), flo(0.1), floBits(0x7FF8000000000000), str(""), str("\x00\xff"), str(x("s", 200)), list(), rec(""), rec("a b_1", num(1), list(flo(math.Copysign(0, -1)), str("x"))), list(sized(199, num(1))...), nestedList(12)}
}

// P13.1: a variable's first value, and floats at their edges.
func TestInits(t *testing.T) {
	for at := range 2 {
		with := func(v api.Value) api.Model {
			m := full()
			m.Vars[at].Init = v
			return m
		}
		for _, v := range rightValues() {
			checkModel(t, with(v), spellModel(with(v)))
		}
		for _, v := range append(wrongValues(), api.Value{}, api.Value{N: 1}) {
			checkNoPack(t, with(v), api.ErrForm)
		}
		want := spellModel(with(list(num(1), rec("a", floBits(0x7FF8000000000000)))))
		for _, bits := range []uint64{0x7FF8000000000001, 0xFFF8000000000000, 0x7FF0000000000001, 0xFFF0000000000001, math.MaxUint64} {
			m := with(list(num(1), rec("a", floBits(bits))))
			if s, e := Pack(m); s != want || e != api.OK {
				t.Fatalf("%x: %s, error %d", bits, short(s), e)
			}
			checkNoModel(t, strings.Replace(want, raw("7FF8000000000000"), raw(fmt.Sprintf("%016x", bits)), 1), api.ErrForm)
		}
		zero, minus := with(flo(0)), with(flo(math.Copysign(0, -1)))
		if a, _ := Pack(zero); a == spellModel(minus) {
			t.Error("the zeros are written alike")
		}
	}
}

// typePlaces are where a model has types.
func typePlaces() []func(m *api.Model) *api.Type {
	var all []func(m *api.Model) *api.Type
	for at := range 2 {
		all = append(all,
			func(m *api.Model) *api.Type { return &m.Vars[at].Type },
			func(m *api.Model) *api.Type { return &m.Msgs[at].Key },
			func(m *api.Model) *api.Type { return &m.Msgs[at].Body })
	}
	return all
}

// P13.1: types, right and not; a type needn't be that of a value.
func TestTypes(t *testing.T) {
	deep := typ(api.TInt)
	for range 12 {
		deep = listOf(deep)
	}
	for _, place := range typePlaces() {
		with := func(ty api.Type) api.Model {
			m := full()
			*place(&m) = ty
			return m
		}
		for _, ty := range []api.Type{typ(api.TBool), typ(api.TInt), typ(api.TFloat), typ(api.TStr), typ(api.TNone), listOf(typ(api.TNone)), recOf(""), recOf("a b", listOf(typ(api.TInt)), recOf("c", typ(api.TStr))), recOf(x("n", 30), typ(api.TInt)), deep.Items[0]} {
			checkModel(t, with(ty), spellModel(with(ty)))
		}
		for _, ty := range []api.Type{
			{}, typ(-1), typ(8), typ(256 + api.TInt), typ(api.TList), {Names: []string{"a"}}, {Kind: api.TInt, Names: []string{"a"}}, {Kind: api.TNone, Items: []api.Type{typ(api.TInt)}}, {Kind: api.TList, Items: sized(2, typ(api.TInt))},
			listOf(api.Type{}), recOf("a"), recOf("b a", typ(1), typ(1)), recOf("a a", typ(1), typ(1)), recOf("A", typ(1)), recOf(x("n", 31), typ(1)), deep, endlessType(),
		} {
			checkNoPack(t, with(ty), api.ErrForm)
		}
	}
}

// ofSize answers a model that is written as so many bytes, 2000 at least and 40000 at most.
func ofSize(t *testing.T, n int) api.Model {
	t.Helper()
	m := full()
	for range 6 {
		m.Nodes = append(m.Nodes, api.Node{Conds: sized(64, constant(""))})
	}
	left := n - len(spellModel(m))
	for _, node := range m.Nodes[2:] {
		for i := range node.Conds {
			more := min(left, 120) // so that the text's length is one byte
			node.Conds[i] = constant(x("c", more))
			left -= more
		}
	}
	if len(spellModel(m)) != n {
		t.Fatal("the test's own: not", n, "bytes")
	}
	return m
}

// P13.1: models of 2^14 bytes, and of one more; what can't be written is told ahead of that.
func TestFull(t *testing.T) {
	for _, n := range []int{3000, 1<<14 - 1, 1 << 14} {
		m := ofSize(t, n)
		checkModel(t, m, spellModel(m))
		for name, number := range placesOf(&m) {
			if kept := *number; strings.HasPrefix(name, "Label") || strings.HasPrefix(name, "+ Var") {
				*number = -2
				checkNoPack(t, m, api.ErrForm)
				*number = kept
			}
		}
	}
	for _, n := range []int{1<<14 + 1, 1<<14 + 2, 20000, 32768, 40000} {
		m := ofSize(t, n)
		checkNoPack(t, m, api.ErrFull)
		checkNoModel(t, spellModel(m), api.ErrFull)
		for _, number := range placesOf(&m) {
			kept := *number
			*number = 10001
			checkNoPack(t, m, api.ErrForm)
			*number = -2
			checkNoPack(t, m, api.ErrForm)
			*number = kept
		}
		last := &m.Nodes[len(m.Nodes)-1]
		last.From = 10001
		checkNoPack(t, m, api.ErrForm)
		checkNoModel(t, spellModel(m), api.ErrFull)
		last.From = 0
		last.Conds = sized(65, api.Expr{})
		checkNoPack(t, m, api.ErrForm)
		last.Conds = nil
		last.Expr = api.Expr{S: "x"}
		checkNoPack(t, m, api.ErrForm)
		last.Expr = api.Expr{}
		m.Vars[0].Init = api.Value{}
		checkNoPack(t, m, api.ErrForm)
	}
	great := api.Model{Nodes: sized(64, api.Node{Conds: sized(64, ofText(2000)), Expr: ofText(2000), Body: ofText(2000)})}
	checkNoPack(t, great, api.ErrFull)
	great.Nodes[63].From = -1
	checkNoPack(t, great, api.ErrForm)
	values := api.Model{Vars: sized(64, api.Var{Type: typ(api.TInt), Init: list(sized(199, str(x("s", 200)))...)})}
	checkNoPack(t, values, api.ErrFull)
	values.Msgs = []api.Msg{{}}
	checkNoPack(t, values, api.ErrForm)
}

// P13.1: whether it can be written isn't whether it is well formed.
func TestNotWellFormed(t *testing.T) {
	for _, m := range []api.Model{
		{Labels: 9}, {Labels: 2, Order: [][2]int{{5, 7}, {5, 7}, {7, 5}}}, {Grants: [][2]int{{9999, 9998}}}, {Vars: []api.Var{{Name: "len", Label: 77, Type: typ(api.TBool), Init: str("no bool")}, {Name: "len", Type: typ(api.TNone), Init: num(1)}}},
		{Nodes: []api.Node{{Kind: 99, Next: []int{10000}, Conds: []api.Expr{{}}, Expr: expr("nothing+[]"), Catch: 9999, Wait: 10000}}}, {Nodes: []api.Node{{Kind: api.NEnd, Conds: exprs("1"), Body: expr("2")}}}, {Msgs: sized(20, api.Msg{Key: typ(api.TNone), Body: typ(api.TNone)})},
	} {
		checkModel(t, m, spellModel(m))
	}
}

// changes are the ways to make another one of a part; each answers whether it is one for it, and writes into no list.
func changes() []func(v reflect.Value) bool {
	number := func(n int64) func(v reflect.Value) bool {
		return func(v reflect.Value) bool {
			if v.CanInt() {
				v.SetInt(n)
			}
			return v.CanInt()
		}
	}
	text := func(s string) func(v reflect.Value) bool {
		return func(v reflect.Value) bool {
			if v.Kind() == reflect.String {
				v.SetString(s)
			}
			return v.Kind() == reflect.String
		}
	}
	float := func(bits uint64) func(v reflect.Value) bool {
		return func(v reflect.Value) bool {
			if v.CanFloat() {
				v.SetFloat(math.Float64frombits(bits))
			}
			return v.CanFloat()
		}
	}
	length := func(n int) func(v reflect.Value) bool {
		return func(v reflect.Value) bool {
			if v.Kind() != reflect.Slice {
				return false
			}
			other := reflect.MakeSlice(v.Type(), n, n)
			for i := range n {
				if v.Len() > 0 {
					other.Index(i).Set(v.Index(i % v.Len()))
				}
			}
			v.Set(other)
			return true
		}
	}
	return []func(v reflect.Value) bool{
		number(0), number(-1), number(-2), number(1), number(2), number(4), number(9999), number(10000), number(10001), number(math.MaxInt64), number(math.MinInt64),
		text(""), text("a"), text("z"), text("A"), text(x("t", 30)), text(x("t", 31)), text(x("t", 201)), text(`"`),
		float(0), float(1 << 63), float(0x7FF8000000000000), float(0xFFF8000000000000), float(0x3FF0000000000000), length(0), length(1), length(2), length(3), length(64), length(65),
	}
}

// spots answers all parts that can be set, the lists among them.
func spots(v reflect.Value) []reflect.Value {
	switch v.Kind() {
	case reflect.Slice, reflect.Array:
		all := []reflect.Value{v}
		for i := range v.Len() {
			all = append(all, spots(v.Index(i))...)
		}
		return all
	case reflect.Struct:
		var all []reflect.Value
		for i := range v.NumField() {
			all = append(all, spots(v.Field(i))...)
		}
		return all
	}
	return []reflect.Value{v}
}

// canonical answers a part that can be written as it is read again: floats that are no number with one and the same bits, in new memory.
func canonical(v reflect.Value) {
	if was, ok := v.Addr().Interface().(*api.Value); ok {
		*was = value.Canon(*was)
		return
	}
	switch v.Kind() {
	case reflect.Slice:
		other := reflect.MakeSlice(v.Type(), v.Len(), v.Len())
		reflect.Copy(other, v)
		v.Set(other)
		for i := range v.Len() {
			canonical(v.Index(i))
		}
	case reflect.Struct:
		for i := range v.NumField() {
			canonical(v.Field(i))
		}
	}
}

// checkAny holds Pack of any model against the document's words.
func checkAny(t *testing.T, m api.Model) bool {
	t.Helper()
	if !mayBeModel(m) {
		checkNoPack(t, m, api.ErrForm)
		return false
	}
	want := spellModel(m)
	if len(want) > 1<<14 {
		checkNoPack(t, m, api.ErrFull)
		return false
	}
	if s, e := Pack(m); s != want || e != api.OK {
		t.Fatalf("%+v: %s, error %d, not %s", m, short(s), e, short(want))
	}
	canonical(reflect.ValueOf(&m).Elem())
	checkRead(t, want, m)
	return true
}

// P13.1, P13.3: each part of a full model by itself, as each of many others.
func TestEachPart(t *testing.T) {
	first := full()
	count := map[bool]int{}
	for at := range spots(reflect.ValueOf(&first).Elem()) {
		for _, change := range changes() {
			m := full()
			if change(spots(reflect.ValueOf(&m).Elem())[at]) {
				count[checkAny(t, m)]++
			}
		}
	}
	if count[true] < 200 || count[false] < 200 {
		t.Error("hardly any of one side:", count)
	}
}

// P13.1, P13.3: models of any shape, and such with up to three parts of others.
func TestAnyModel(t *testing.T) {
	r := rand.New(rand.NewSource(1))
	count := map[bool]int{}
	for range 2500 {
		m := anyModel(r)
		checkModel(t, m, spellModel(m))
		for range 1 + r.Intn(3) {
			all := spots(reflect.ValueOf(&m).Elem())
			for !pick(r, changes()...)(pick(r, all...)) {
			}
		}
		count[checkAny(t, m)]++
	}
	if count[true] < 200 || count[false] < 200 {
		t.Error("hardly any of one side:", count)
	}
}
