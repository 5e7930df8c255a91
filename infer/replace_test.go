package infer

import (
	"fmt"
	"math"
	"math/rand"
	"slices"
	"strings"
	"testing"
	"unsafe"

	"bascule/api"
	"bascule/eval"
	"bascule/parse"
	"bascule/value"
)

// showValue tells all fields of any value, floats by their bits, nil and an empty list alike.
func showValue(v api.Value) string {
	s := fmt.Sprintf("%d %d %x %q %q", v.Kind, v.N, math.Float64bits(v.F), v.S, v.Names)
	for _, item := range v.Items {
		s += " (" + showValue(item) + ")"
	}
	return s
}

// showAlone tells an expression without its Kids.
func showAlone(x api.Expr) string {
	return fmt.Sprintf("%d %q %q <%s> %d", x.Kind, x.S, x.Names, showValue(x.V), len(x.Kids))
}

// show tells all fields of any expression.
func show(x api.Expr) string {
	s := showAlone(x)
	for _, kid := range x.Kids {
		s += " (" + show(kid) + ")"
	}
	return s
}

// replaced lays out what Replace is to answer: what stands at each path from the front, with another expression's paths grafted where a variable of the name stands.
func replaced(x api.Expr, name string, by api.Expr) map[string]string {
	paths := map[string]string{}
	type place struct {
		x    api.Expr
		path string
		is   bool // whether it is of what is put in
	}
	for open := []place{{x, "", false}}; len(open) > 0; open = open[1:] {
		at := open[0]
		if !at.is && at.x.Kind == api.EVar && at.x.S == name {
			at.x, at.is = by, true
		}
		paths[at.path] = showAlone(at.x)
		for i, kid := range at.x.Kids {
			open = append(open, place{kid, fmt.Sprint(at.path, ".", i), at.is})
		}
	}
	return paths
}

// pathsOf tells what stands at each path.
func pathsOf(x api.Expr) map[string]string {
	paths := map[string]string{"": showAlone(x)}
	for i, kid := range x.Kids {
		for path, s := range pathsOf(kid) {
			paths[fmt.Sprint(".", i, path)] = s
		}
	}
	return paths
}

func checkReplace(t *testing.T, x api.Expr, name string, by api.Expr) {
	t.Helper()
	got, want := pathsOf(Replace(x, name, by)), replaced(x, name, by)
	if fmt.Sprint(got) != fmt.Sprint(want) {
		t.Fatalf("%q in %.300s by %.300s: %.500v, not %.500v", name, show(x), show(by), got, want)
	}
}

// P11.3: expressions one by one, the example among them.
func TestReplacePlain(t *testing.T) {
	for _, c := range [][4]string{
		{"x+y", "x", "1", "1+y"}, {"x", "x", "1", "1"}, {"x", "y", "1", "x"}, {"x", "x", "x", "x"}, {"x", "x", "x+x", "x+x"}, {"x+x", "x", "x+y", "(x+y)+(x+y)"}, {"3", "x", "1", "3"}, {"x.x", "x", "y", "y.x"}, {"{x:x}", "x", "y", "{x:y}"}, {`"x"+x`, "x", "1", `"x"+1`}, {"xx+x", "x", "1", "xx+1"}, {"x", "xx", "1", "x"}, {"-x", "x", "1", "-1"}, {"!x", "x", "true", "!true"},
		{"x-x*x/x%x", "x", "a", "a-a*a/a%a"}, {"x==y", "y", "2", "x==2"}, {"x<y", "y", "2", "x<2"}, {"x<=y", "y", "2", "x<=2"}, {"x&&y", "x", "a||b", "(a||b)&&y"}, {"x||y", "y", "a&&b", "x||(a&&b)"}, {"x?y:z", "x", "1", "1?y:z"}, {"x?y:z", "y", "1", "x?1:z"}, {"x?y:z", "z", "1", "x?y:1"}, {"x?x:x", "x", "a?b:c", "(a?b:c)?(a?b:c):(a?b:c)"},
		{"[x,y,x]", "x", "[1]", "[[1],y,[1]]"}, {"{b:x,a:y}", "y", "{c:1}", "{a:{c:1},b:x}"}, {"x[y]", "y", "y+1", "x[y+1]"}, {"x[y]", "x", "[1]", "[1][y]"}, {"len(x)", "x", "y", "len(y)"}, {"float(x)", "x", "y", "float(y)"}, {"int(x)", "x", "y", "int(y)"}, {"str(x)", "x", "y", "str(y)"}, {"[[[{a:-x}.a+y]]]", "x", "x", "[[[{a:-x}.a+y]]]"}, {"[[[{a:-x}.a+y]]]", "x", "y", "[[[{a:-y}.a+y]]]"},
	} {
		if got := Replace(expr(c[0]), c[1], expr(c[2])); show(got) != show(expr(c[3])) {
			s, _ := parse.Text(got)
			t.Errorf("%s in %s by %s: %s, not %s", c[1], c[0], c[2], s, c[3])
		}
	}
}

// P11.3: of any kind, right or not; the names, the texts and the values that stand elsewhere stay.
func TestReplaceKinds(t *testing.T) {
	held := api.Value{Kind: 77, N: -3, F: math.Float64frombits(0xFFF8000000000001), S: "x", Names: []string{"x", ""}, Items: []api.Value{{Kind: api.VStr, S: "x", F: math.Copysign(0, -1)}, {Items: []api.Value{{Names: []string{"x"}}}}}}
	for kind := -2; kind < 27; kind++ {
		x := api.Expr{Kind: kind, S: "y", V: held, Names: []string{"y", "x", "x"}}
		for _, name := range []string{"x", "y", "", "z"} {
			for _, by := range []api.Expr{{}, vari("x"), vari("z"), expr("[x,{a:y}]"), x, {Kind: kind, S: "x", V: held, Kids: []api.Expr{x, vari("y"), vari("x")}}} {
				checkReplace(t, x, name, by)
				x := x
				x.Kids = []api.Expr{vari("x"), of(kind, vari("x"), vari("y")), {Kind: api.EVar, S: "y", Kids: exprs("x", "y")}, {S: "x"}, {Kind: api.EField, S: "x"}, vari(""), vari("x")}
				checkReplace(t, x, name, by)
				x.S = "x"
				checkReplace(t, x, name, by)
			}
		}
	}
	for _, name := range []string{"", "\x00", "true", "X", rep("x", 100), "\xff"} {
		checkReplace(t, of(api.EAdd, vari(name), vari("x")), name, expr("1"))
		checkReplace(t, of(api.EAdd, vari(name), vari("x")), "x", vari(name))
	}
}

// P11.3: trees of any shape, and right expressions.
func TestReplaceMany(t *testing.T) {
	r := rand.New(rand.NewSource(6))
	for range 2000 {
		left, more := 1+r.Intn(60), 1+r.Intn(10)
		checkReplace(t, anyTree(r, &left, someNames), someNames[r.Intn(3)], anyTree(r, &more, someNames))
		x, by, name := anyExpr(r, someNames, 1+r.Intn(5)), anyExpr(r, someNames, 1+r.Intn(3)), someNames[r.Intn(6)]
		checkReplace(t, x, name, by)
		checkReplace(t, x, "g", by)
		if got := Replace(x, name, vari(name)); show(got) != show(x) {
			t.Fatal("put in for itself: ", show(got))
		}
		reads := slices.DeleteFunc(seekNames(x), func(s string) bool { return s == name })
		if slices.Contains(seekNames(x), name) {
			reads = append(reads, seekNames(by)...)
		}
		checkReads(t, Replace(x, name, by), rising(reads))
	}
}

// P11.3: all parts count, however many there are.
func TestReplaceGreat(t *testing.T) {
	wide := of(api.EList, slices.Repeat(exprs("x", "y"), 3000)...)
	got := Replace(wide, "x", expr("1"))
	if len(got.Kids) != 6000 || slices.ContainsFunc(got.Kids, func(x api.Expr) bool { return show(x) != show(expr("1")) && show(x) != show(expr("y")) }) {
		t.Error("a wide one")
	}
	deep := vari("x")
	for range 1<<16 - 1 {
		deep = of(api.ENeg, deep)
	}
	count := 0
	for got = Replace(deep, "x", expr("1")); len(got.Kids) == 1; got = got.Kids[0] {
		count++
	}
	if count != 1<<16-1 || show(got) != show(expr("1")) {
		t.Error("a deep one:", count, got.Kind)
	}
	count = 0
	for got = Replace(of(api.ENot, vari("x")), "x", deep); len(got.Kids) == 1; got = got.Kids[0] {
		count++
	}
	if count != 1<<16 || show(got) != show(vari("x")) {
		t.Error("a deep one put in:", count, got.Kind)
	}
}

// places answers where all the lists and texts of an expression stand.
func places(x api.Expr) []uintptr {
	all := listPlaces(x.Names, x.V.Names)
	for _, text := range slices.Concat([]string{x.S, x.V.S}, x.Names, x.V.Names) {
		if text != "" {
			all = append(all, uintptr(unsafe.Pointer(unsafe.StringData(text))))
		}
	}
	if cap(x.Kids) > 0 {
		all = append(all, uintptr(unsafe.Pointer(unsafe.SliceData(x.Kids))))
	}
	if cap(x.V.Items) > 0 {
		all = append(all, uintptr(unsafe.Pointer(unsafe.SliceData(x.V.Items))))
	}
	for _, item := range x.V.Items {
		all = append(all, places(api.Expr{V: item})...)
	}
	for _, kid := range x.Kids {
		all = append(all, places(kid)...)
	}
	return all
}

func listPlaces(lists ...[]string) []uintptr {
	var all []uintptr
	for _, list := range lists {
		if cap(list) > 0 {
			all = append(all, uintptr(unsafe.Pointer(unsafe.SliceData(list))))
		}
	}
	return all
}

// withRoom answers an expression whose lists have spare room.
func withRoom(x api.Expr) api.Expr {
	x.Names = append(make([]string, 0, len(x.Names)+2), x.Names...)
	x.V.Names = append(make([]string, 0, len(x.V.Names)+2), x.V.Names...)
	x.V.Items = append(make([]api.Value, 0, len(x.V.Items)+2), x.V.Items...)
	kids := make([]api.Expr, 0, len(x.Kids)+2)
	for _, kid := range x.Kids {
		kids = append(kids, withRoom(kid))
	}
	x.Kids = kids
	return x
}

// showRoom tells an expression with its spare room laid open.
func showRoom(x api.Expr) string {
	s := fmt.Sprintf("%d %q %q <%s %q>", x.Kind, x.S, x.Names[:cap(x.Names)], showValue(x.V), x.V.Names[:cap(x.V.Names)])
	for _, item := range x.V.Items[:cap(x.V.Items)] {
		s += " [" + showRoom(api.Expr{V: item}) + "]"
	}
	for _, kid := range x.Kids[:cap(x.Kids)] {
		s += " (" + showRoom(kid) + ")"
	}
	return s
}

// scribble writes into all of an answer.
func scribble(x api.Expr) {
	for _, names := range [][]string{x.Names, x.V.Names} {
		for i := range names[:cap(names)] {
			names[:cap(names)][i] = "scribbled"
		}
	}
	for i, item := range x.V.Items[:cap(x.V.Items)] {
		scribble(api.Expr{V: item})
		x.V.Items[:cap(x.V.Items)][i] = api.Value{Kind: 99}
	}
	for i, kid := range x.Kids[:cap(x.Kids)] {
		scribble(kid)
		x.Kids[:cap(x.Kids)][i] = api.Expr{Kind: 99}
	}
}

// checkNew tells whether what is answered shares memory with what was handed in, or with itself.
func checkNew(t *testing.T, answer api.Expr, given ...api.Expr) {
	t.Helper()
	met := map[uintptr]bool{}
	for _, g := range given {
		for _, at := range places(g) {
			met[at] = true
		}
	}
	for _, at := range places(answer) {
		if met[at] {
			t.Fatalf("%s shares memory", show(answer))
		}
		met[at] = true
	}
}

// Rules 5, 7: what Replace answers is new memory, each copy of what is put in too, and what is handed in stays.
func TestReplaceIsNew(t *testing.T) {
	held := api.Value{Kind: api.VRec, S: "abc", Names: []string{"de", "fg"}, Items: []api.Value{{Kind: api.VStr, S: "hi"}, {Kind: api.VList, Items: []api.Value{{Kind: api.VRec, Names: []string{"jk"}, Items: []api.Value{{S: "lm"}}}}}}}
	filled := api.Expr{Kind: api.EConst, S: "no", V: held, Names: []string{"pq", "rs"}, Kids: []api.Expr{{Kind: api.EVar, S: "tu", Names: []string{"vw"}, V: held, Kids: exprs("a", "xy")}, expr("[a,b]")}}
	r := rand.New(rand.NewSource(7))
	for i := range 2000 {
		x, by := withRoom(anyExpr(r, someNames, 1+r.Intn(5))), withRoom(anyExpr(r, someNames, 1+r.Intn(3)))
		switch i % 4 {
		case 1:
			by = withRoom(filled)
		case 2:
			x = withRoom(of(api.EList, filled, x, filled))
		}
		before, told := showRoom(x), showRoom(by)
		got := Replace(x, "a", by)
		checkNew(t, got, x, by)
		again := Replace(x, "a", by)
		checkNew(t, again, got, x, by)
		scribble(got)
		if showRoom(x) != before || showRoom(by) != told || show(Replace(x, "a", by)) != show(again) {
			t.Fatal("what was handed in became another one, or another answer comes")
		}
		checkNew(t, Replace(x, "a", x), x)
		if showRoom(x) != before {
			t.Fatal("what was put in itself became another one")
		}
	}
}

// someValues are values that the variables of mixed expressions have, many of one kind.
func someValues() []api.Value {
	one := api.Value{Kind: api.VInt, N: 1}
	return []api.Value{{Kind: api.VInt}, one, {Kind: api.VInt, N: 2}, {Kind: api.VInt, N: math.MaxInt64}, {Kind: api.VBool}, {Kind: api.VBool, N: 1}, {Kind: api.VFloat, F: 1.5}, {Kind: api.VStr, S: "s"}, {Kind: api.VList, Items: []api.Value{one, one}}, {Kind: api.VRec, Names: []string{"a", "b"}, Items: []api.Value{one, {Kind: api.VList}}}}
}

// outcome tells what an expression comes to, an error too.
func outcome(x api.Expr, vars []api.Var, values []api.Value) string {
	v, e := eval.Eval(x, vars, values)
	s, _ := value.Text(v)
	return fmt.Sprint(s, " ", e)
}

// P11.4: variables that aren't at or below a level change nothing of what is; those that are do.
func TestSound(t *testing.T) {
	r := rand.New(rand.NewSource(8))
	var same, other, fine int
	for range 30000 {
		l := lattices()[r.Intn(7)]
		vars := anyVars(r, l, someNames, false)
		vars = slices.DeleteFunc(vars, func(v api.Var) bool { return v.Label < 0 || v.Label >= l.Size() })
		values := make([]api.Value, len(vars))
		for i := range values {
			values[i] = someValues()[r.Intn(10)]
		}
		x := anyExpr(r, someNames, 1+r.Intn(4))
		a, e := Label(l, x, vars)
		if e != api.OK {
			continue
		}
		level := r.Intn(l.Size())
		before := outcome(x, vars, values)
		for i, v := range vars {
			if !l.Leq(v.Label, level) {
				values[i] = someValues()[r.Intn(10)]
			}
		}
		switch after := outcome(x, vars, values); {
		case !l.Leq(a, level):
			if after != before {
				other++
			}
		case after != before:
			s, _ := parse.Text(x)
			t.Fatalf("%s at %d, seen at %d: %s, then %s", s, a, level, before, after)
		default:
			same++
			if strings.HasSuffix(before, " 0") {
				fine++
			}
		}
	}
	if same < 3000 || other < 1000 || fine < 1000 {
		t.Error("hardly any of one side:", same, other, fine)
	}
}

// P11.4: of each kind, a Kid's variable that is high makes what comes high, wherever it stands.
func TestEachKidCounts(t *testing.T) {
	l := made(2, [2]int{0, 1})
	vars := []api.Var{{Name: "h", Label: 1}, {Name: "x", Label: 0}}
	for _, text := range []string{"-x", "!x", "x+x", "x-x", "x*x", "x/x", "x%x", "x==x", "x<x", "x<=x", "x&&x", "x||x", "x?x:x", "[x,x,x]", "{a:x,b:x}", "x.h", "x[x]", "len(x)", "float(x)", "int(x)", "str(x)"} {
		x := expr(text)
		checkLabel(t, l, x, vars, 0, api.OK)
		for i := range x.Kids {
			kid := x.Kids[i]
			x.Kids[i] = vari("h")
			checkLabel(t, l, x, vars, 1, api.OK)
			checkLabel(t, l, of(api.EList, expr("1"), x), vars, 1, api.OK)
			x.Kids[i] = kid
		}
	}
}
