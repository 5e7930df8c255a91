package infer

import (
	"fmt"
	"math"
	"math/rand"
	"slices"
	"strings"
	"testing"
	"unsafe"

	"bascule/api"
	"bascule/lattice"
	"bascule/parse"
)

func rep(s string, n int) string { return strings.Repeat(s, n) }

// expr reads an expression.
func expr(text string) api.Expr {
	x, at, e := parse.Parse(text)
	if e != api.OK {
		panic(fmt.Sprintf("no expression: %s: %d at %d", text, e, at))
	}
	return x
}

func exprs(texts ...string) []api.Expr {
	var all []api.Expr
	for _, text := range texts {
		all = append(all, expr(text))
	}
	return all
}

func vari(name string) api.Expr { return api.Expr{Kind: api.EVar, S: name} }

func of(kind int, kids ...api.Expr) api.Expr { return api.Expr{Kind: kind, Kids: kids} }

// labelled reads "x1 y0" as variables with those labels: a name, and a number of one digit or of more behind a sign.
func labelled(text string) []api.Var {
	var vars []api.Var
	for _, field := range strings.Fields(text) {
		at := strings.IndexAny(field, "-0123456789")
		var label int
		fmt.Sscan(field[at:], &label)
		vars = append(vars, api.Var{Name: field[:at], Label: label})
	}
	return vars
}

func made(n int, order ...[2]int) *lattice.Lattice {
	l, e := lattice.Make(n, order)
	if e != api.OK {
		panic(fmt.Sprint("no lattice: ", order))
	}
	return l
}

// lattices are a chain of two, one turned round, one label alone, the diamond, one with its bottom at 2 and its top at 1, five labels with three beside one another, and the cube turned about.
func lattices() []*lattice.Lattice {
	var cube [][2]int
	for a := range 8 {
		for bit := 1; bit < 8; bit *= 2 {
			if a&bit == 0 {
				cube = append(cube, [2]int{a ^ 5, (a | bit) ^ 5})
			}
		}
	}
	return []*lattice.Lattice{made(2, [2]int{0, 1}), made(2, [2]int{1, 0}), made(1), made(4, [2]int{0, 1}, [2]int{0, 2}, [2]int{1, 3}, [2]int{2, 3}), made(4, [2]int{2, 0}, [2]int{2, 3}, [2]int{0, 1}, [2]int{3, 1}), made(5, [2]int{4, 0}, [2]int{4, 1}, [2]int{4, 2}, [2]int{0, 3}, [2]int{1, 3}, [2]int{2, 3}), made(8, cube...)}
}

// front answers an expression's parts from the front, so many at most, by a stack of what is yet to come.
func front(x api.Expr, most int) []api.Expr {
	var parts []api.Expr
	for stack := []api.Expr{x}; len(stack) > 0 && len(parts) < most; {
		next := stack[len(stack)-1]
		stack = stack[:len(stack)-1]
		parts = append(parts, next)
		for i := len(next.Kids) - 1; i >= 0; i-- {
			stack = append(stack, next.Kids[i])
		}
	}
	return parts
}

// seekNames tells the names of the first 500 parts.
func seekNames(x api.Expr) []string {
	var names []string
	for _, part := range front(x, 500) {
		if part.Kind == api.EVar {
			names = append(names, part.S)
		}
	}
	return rising(names)
}

// least answers the least label that is at or above all of them, by the order alone.
func least(l *lattice.Lattice, labels []int) int {
	for a := range l.Size() {
		isAbove := func(a int) bool {
			return !slices.ContainsFunc(labels, func(b int) bool { return !l.Leq(b, a) })
		}
		isLeast := isAbove(a)
		for b := range l.Size() {
			isLeast = isLeast && (!isAbove(b) || l.Leq(a, b))
		}
		if isLeast {
			return a
		}
	}
	panic("no least label")
}

// seekLabel reckons a right expression's label.
func seekLabel(l *lattice.Lattice, x api.Expr, vars []api.Var) (int, api.Errno) {
	var labels []int
	for _, name := range seekNames(x) {
		var own []int
		for _, v := range vars {
			if v.Name == name {
				own = append(own, v.Label)
			}
		}
		switch {
		case len(own) == 0:
			return 0, api.ErrNone
		case own[0] < 0 || own[0] >= l.Size():
			return 0, api.ErrRange
		}
		labels = append(labels, own[0])
	}
	return least(l, labels), api.OK
}

func checkReads(t *testing.T, x api.Expr, want []string) {
	t.Helper()
	if got := Reads(x); !slices.Equal(got, want) {
		t.Fatalf("kind %d, %d parts: %.300q, not %.300q", x.Kind, parse.Parts(x), got, want)
	}
}

func checkLabel(t *testing.T, l *lattice.Lattice, x api.Expr, vars []api.Var, want int, e api.Errno) {
	t.Helper()
	if got, err := Label(l, x, vars); got != want || err != e {
		s, _ := parse.Text(x)
		t.Fatalf("%.300s: %d, error %d, not %d, %d", s, got, err, want, e)
	}
}

// P11.1: expressions one by one, the example among them.
func TestReadsPlain(t *testing.T) {
	for text, want := range map[string]string{
		"b+a+b": "a b", "3": "", "nan": "", "true": "", `"x"`: "", "[]": "", "{}": "", "x": "x", "x+x+x": "x", "b+a": "a b", "a+b": "a b", "c*b-a": "a b c",
		"-x": "x", "!x": "x", "a-b": "a b", "a*b": "a b", "a/b": "a b", "a%b": "a b", "a==b": "a b", "a<b": "a b", "a<=b": "a b", "a&&b": "a b", "b||a": "a b", "c?b:a": "a b c", "false&&x": "x", "true||x": "x", "true?1:x": "x", "[c,a,b,a]": "a b c", "{a:z,z:y}": "y z", "{x:1}": "", "x.y": "x", "{a:x}.a": "x", "b[a]": "a b", "[1][x]": "x", "len(x)": "x", "float(x)": "x", "int(x)": "x", "str(x)": "x",
		"a10+a9+a+a_+a1+ab+b": "a a1 a10 a9 a_ ab b", "len(str([{c:-z,b:!y}.b?x:w]))": "w x y z", "lenx+floats": "floats lenx",
	} {
		checkReads(t, expr(text), strings.Fields(want))
	}
	long := rep("z", 30)
	checkReads(t, of(api.EAdd, vari(long), vari(long[1:])), []string{long[1:], long})
}

// P11.1: of any kind, right or not, the Kids are looked at, and S just of EVar.
func TestReadsKinds(t *testing.T) {
	for _, kind := range append([]int{math.MinInt, -1, 0, 24, 25, 99, math.MaxInt}, slices.Collect(func(yield func(int) bool) {
		for kind := api.EConst; kind <= api.EStr && yield(kind); kind++ {
		}
	})...) {
		x := api.Expr{Kind: kind, S: "m", V: api.Value{Kind: 4, S: "v", Names: []string{"w"}}, Names: []string{"n", "o", "p"}}
		var own []string
		if kind == api.EVar {
			own = []string{"m"}
		}
		checkReads(t, x, own)
		for _, kids := range []string{"z", "b z", "z b", "c a b", "z c y a", "a a a", "z z b b z"} {
			x.Kids = nil
			for _, name := range strings.Fields(kids) {
				x.Kids = append(x.Kids, vari(name))
			}
			want := append(strings.Fields(kids), own...)
			checkReads(t, x, rising(want))
			checkReads(t, of(api.ENot, x), rising(want))
			want = append(want, "z")
			if kind == api.EVar {
				want = append(want, "")
			}
			checkReads(t, of(kind, of(kind, x), vari("z")), rising(want))
		}
	}
}

// rising answers names in their order, each once.
func rising(names []string) []string {
	return slices.Compact(slices.Sorted(slices.Values(names)))
}

// where answers a name, if it holds that it is told.
func where(holds bool, name string) []string {
	if holds {
		return []string{name}
	}
	return nil
}

// P11.1: names that are none are told as others are, rising by bytes.
func TestReadsAnyNames(t *testing.T) {
	names := []string{"", "\x00", "\x00\x00", " ", "0", "A", "X", "_", "a", "a\x00", "a b", "aa", "false", "len", "nan", "true", "z", rep("z", 31), rep("z", 1000), "\x7f", "\x80", "é", "\xff"}
	kids := []api.Expr{}
	for _, name := range names {
		kids = append(kids, vari(name))
		checkReads(t, vari(name), []string{name})
		checkReads(t, api.Expr{Kind: api.EVar, S: name, Kids: exprs("q", "b")}, rising([]string{"b", "q", name}))
	}
	want := slices.Sorted(slices.Values(names))
	r := rand.New(rand.NewSource(1))
	for range 50 {
		r.Shuffle(len(kids), func(i, j int) { kids[i], kids[j] = kids[j], kids[i] })
		checkReads(t, of(api.EList, append(kids, kids[:r.Intn(len(kids))]...)...), want)
	}
}

func numbered(i int) string { return fmt.Sprintf("v%06d", i) }

// numberedUpTo answers the names of these numbers, rising.
func numberedUpTo(from, to int) []string {
	var names []string
	for i := from; i < to; i++ {
		names = append(names, numbered(i))
	}
	return names
}

// deepVars answers variables each in the one ahead of it, the first one outermost.
func deepVars(n int) api.Expr {
	x := vari(numbered(n - 1))
	for i := n - 2; i >= 0; i-- {
		x = api.Expr{Kind: api.EVar, S: numbered(i), Kids: []api.Expr{x}}
	}
	return x
}

// P11.1: just the first 500 parts count, of what is wide and of what is deep.
func TestReadsFirst500(t *testing.T) {
	for _, n := range []int{1, 2, 198, 199, 200, 250, 498, 499, 500, 501, 502, 1000, 1 << 16} {
		wide := of(api.EList)
		for i := range n {
			wide.Kids = append(wide.Kids, vari(numbered(n-1-i))) // so that the first ones are the last by name
		}
		checkReads(t, wide, numberedUpTo(max(0, n-499), n))
		wide.Kind, wide.S = api.EVar, "z"
		checkReads(t, wide, append(numberedUpTo(max(0, n-499), n), "z"))
		checkReads(t, deepVars(n), numberedUpTo(0, min(n, 500)))
		within := vari("x")
		for range n - 1 {
			within = of(api.ENeg, within)
		}
		checkReads(t, within, where(n <= 500, "x"))
		checkReads(t, of(api.EAdd, within, vari("y")), append(where(n+1 <= 500, "x"), where(n+2 <= 500, "y")...))
		checkReads(t, of(api.EAdd, vari("y"), within), append(where(n+2 <= 500, "x"), "y"))
		checkReads(t, of(api.EIf, of(0, within), vari("y"), vari("z")), slices.Concat(where(n+2 <= 500, "x"), where(n+3 <= 500, "y"), where(n+4 <= 500, "z")))
	}
	bare := of(api.EList, slices.Repeat([]api.Expr{{}}, 498)...)
	bare.Kids = append(bare.Kids, vari("a"), vari("b"))
	checkReads(t, bare, []string{"a"})
	checkReads(t, of(api.EList, bare, vari("c")), nil)
	checkReads(t, of(api.EList, vari("c"), bare), []string{"c"})
	bare.Kids = bare.Kids[1:]
	checkReads(t, bare, []string{"a", "b"})
	checkReads(t, of(api.EList, bare, vari("c")), []string{"a"})
	held := of(api.EConst)
	held.V = api.Value{Kind: api.VList, Items: make([]api.Value, 600)} // values have parts of their own
	held.Names = make([]string, 600)
	checkReads(t, of(api.EList, held, held, vari("x")), []string{"x"})
}

// P11.1, rule 1: what shares its Kids, or has itself within itself, ends.
func TestReadsEnds(t *testing.T) {
	shared := vari("x")
	for i := range 2000 {
		kids := []api.Expr{shared, vari(numbered(i)), shared}
		shared = of(api.EList, kids...)
	}
	checkReads(t, shared, nil)
	fan := vari("x")
	for range 70 {
		fan = of(api.EAdd, slices.Repeat([]api.Expr{fan}, 1000)...)
	}
	checkReads(t, fan, []string{"x"})
	endless := api.Expr{Kind: api.EVar, S: "x", Kids: []api.Expr{vari("b"), {}, vari("c")}}
	endless.Kids[1] = endless
	checkReads(t, endless, []string{"b", "x"})
	endless.Kids[0] = of(api.ENot, vari("a"))
	checkReads(t, endless, []string{"a", "x"})
	checkLabel(t, made(1), endless, nil, 0, api.ErrArg)
	checkLabel(t, made(1), fan, nil, 0, api.ErrArg)
	checkLabel(t, made(1), shared, nil, 0, api.ErrArg)
}

// anyTree answers any tree of so many parts at most, right or not.
func anyTree(r *rand.Rand, left *int, names []string) api.Expr {
	*left--
	x := api.Expr{Kind: r.Intn(26) - 1}
	if r.Intn(2) == 0 {
		x.Kind = api.EVar
	}
	if r.Intn(3) > 0 {
		x.S = names[r.Intn(len(names))]
	}
	for range r.Intn(5) {
		if *left > 0 && r.Intn(5) > 0 {
			x.Kids = append(x.Kids, anyTree(r, left, names))
		}
	}
	return x
}

// P11.1: of trees of any shape, against parts told by a stack.
func TestReadsMany(t *testing.T) {
	r := rand.New(rand.NewSource(2))
	var few, cut int
	for range 1000 {
		names := numberedUpTo(0, 1+r.Intn(800))
		left := 1 + r.Intn(1500)
		x := anyTree(r, &left, names)
		for range r.Intn(60) { // great trees seldom come by themselves
			x.Kids = append(x.Kids, anyTree(r, &left, names))
			left = max(left, 1)
		}
		want := seekNames(x)
		checkReads(t, x, want)
		if len(front(x, 501)) > 500 {
			cut++
		} else {
			few++
		}
	}
	if few < 200 || cut < 200 {
		t.Error("hardly any of one side:", few, cut)
	}
}

// P11.2: labels one by one, the examples among them.
func TestLabelPlain(t *testing.T) {
	two, diamond, turned := lattices()[0], lattices()[3], lattices()[4]
	for _, c := range []struct {
		l    *lattice.Lattice
		vars string
		want map[string]int
	}{
		{two, "x1 y0", map[string]int{"x+y": 1, "y": 0, "3": 0, "x": 1, "y+x": 1, "y+y": 0, "false&&x==1": 1, "true?1:x": 1, "[]": 0, "{x:1}": 0, "y.x": 0, "[1,[y]][x]": 1}},
		{diamond, "a0 b1 c2 d3 e1", map[string]int{"1": 0, "a": 0, "b": 1, "c": 2, "d": 3, "a+b": 1, "b+a": 1, "a+c": 2, "b+c": 3, "c+b": 3, "b+e": 1, "b+d": 3, "a+d": 3, "[c,a,c]": 2, "[a,b,c]": 3, "len(c)": 2, "{b:c}.b": 2}},
		{turned, "a0 b1 c2 d3", map[string]int{"1": 2, "[]": 2, "a": 0, "b": 1, "c": 2, "d": 3, "a+c": 0, "c+d": 3, "a+d": 1, "d+a+c": 1, "c+c": 2, "b+c": 1}},
	} {
		for text, want := range c.want {
			checkLabel(t, c.l, expr(text), labelled(c.vars), want, api.OK)
		}
	}
}

// P11.2: of no names the bottom, whatever the variables are; of one its label.
func TestLabelOfFew(t *testing.T) {
	for _, l := range lattices() {
		bottom := least(l, nil)
		for _, text := range []string{"3", "[]", "{a:1}", "1/0", "1+true", "{a:1}.b"} {
			for _, vars := range []string{"", "x0", "x-1 y99", "a9 x0"} {
				checkLabel(t, l, expr(text), labelled(vars), bottom, api.OK)
			}
		}
		for a := range l.Size() {
			vars := []api.Var{{Name: "y", Label: -5}, {Name: "x", Label: a}, {Name: "z", Label: 8}}
			checkLabel(t, l, expr("x"), vars, a, api.OK)
			checkLabel(t, l, expr("-[x,1,x][x.x]"), vars, a, api.OK)
			for b := range l.Size() {
				vars[0].Label = b
				checkLabel(t, l, expr("x+y"), vars, least(l, []int{a, b}), api.OK)
				checkLabel(t, l, expr("y+x"), vars, least(l, []int{a, b}), api.OK)
			}
		}
	}
}

// wrongExprs are expressions that aren't right, each for one cause.
func wrongExprs() []api.Expr {
	x := vari("x")
	deep := x
	for range 12 {
		deep = of(api.ENot, deep)
	}
	return []api.Expr{{}, {Kind: 24}, {Kind: -1}, {Kind: 24, Kids: []api.Expr{x}}, vari(""), vari("true"), vari("X"), vari(rep("x", 31)), of(api.EVar), {Kind: api.EVar, S: "x", Kids: []api.Expr{x}}, {Kind: api.EVar, S: "x", Names: []string{"a"}}, {Kind: api.EVar, S: "x", V: api.Value{Kind: 2}}, of(api.ENeg), of(api.ENeg, x, x), of(api.EAdd, x), of(api.EAdd, x, x, x), of(api.EIf, x, x), of(api.EIndex, x), of(api.EConst), {Kind: api.EConst, V: api.Value{Kind: api.VInt, N: -1}}, {Kind: api.EConst, V: api.Value{Kind: api.VList}}, {Kind: api.ERec, Names: []string{"a"}}, {Kind: api.ERec, Names: []string{"b", "a"}, Kids: []api.Expr{x, x}}, {Kind: api.EField, S: "nan", Kids: []api.Expr{x}}, of(api.EField, x), of(api.EList, slices.Repeat([]api.Expr{x}, 200)...), deep, of(api.EList, of(0, x)), of(api.EList, x, of(api.EList, vari("len")))}
}

// P11.2: ErrNil ahead of all else, ErrArg ahead of what names are told of.
func TestLabelArguments(t *testing.T) {
	l := made(2, [2]int{0, 1})
	for _, x := range append(wrongExprs(), exprs("1", "x", "y")...) {
		for _, vars := range []string{"", "x0", "x9", "x-1 y0"} {
			checkLabel(t, nil, x, labelled(vars), 0, api.ErrNil)
		}
	}
	for _, wrong := range wrongExprs() {
		for _, x := range []api.Expr{wrong, of(api.ENot, wrong), of(api.EAdd, vari("y"), wrong), of(api.EAdd, wrong, vari("y"))} {
			for _, vars := range []string{"", "x0", "x1 y1", "x9 y-1", "a1 x0"} {
				checkLabel(t, l, x, labelled(vars), 0, api.ErrArg)
			}
		}
	}
	wide := of(api.EList)
	var vars []api.Var
	for i := range 200 {
		if i < 199 {
			wide.Kids = append(wide.Kids, vari(numbered(i)))
		}
		vars = append(vars, api.Var{Name: numbered(199 - i)})
	}
	checkLabel(t, l, wide, vars, 0, api.OK) // 200 parts, as many as there may be
	vars[1].Label = 1
	checkLabel(t, l, wide, vars, 1, api.OK)
	vars[1].Label = 2
	checkLabel(t, l, wide, vars, 0, api.ErrRange)
	checkLabel(t, l, wide, vars[2:], 0, api.ErrNone)
	wide.Kids = append(wide.Kids, vari(numbered(199)))
	checkLabel(t, l, wide, vars, 0, api.ErrArg)
}

// P11.2: of the names, rising, the first one that is at fault tells.
func TestLabelFirstError(t *testing.T) {
	l := lattices()[3]
	for _, c := range []struct {
		text, vars string
		want       int
		e          api.Errno
	}{
		{"x", "", 0, api.ErrNone}, {"x", "y0", 0, api.ErrNone}, {"x", "xx0 X0", 0, api.ErrNone}, {"x", "x4", 0, api.ErrRange}, {"x", "x-1", 0, api.ErrRange}, {"x", "x5", 0, api.ErrRange}, {"x", "x8", 0, api.ErrRange}, {"x", "x-9223372036854775808", 0, api.ErrRange}, {"x", "x9223372036854775807", 0, api.ErrRange}, {"x", "x4294967296", 0, api.ErrRange}, {"x", "x3", 3, api.OK}, {"x", "x0", 0, api.OK},
		{"a+b", "a9", 0, api.ErrRange}, {"b+a", "a9", 0, api.ErrRange}, {"a+b", "b9", 0, api.ErrNone}, {"b+a", "b9", 0, api.ErrNone}, {"a+b", "b9 a3", 0, api.ErrRange}, {"a+b", "b1 a9", 0, api.ErrRange}, {"a+b", "a3", 0, api.ErrNone}, {"a+b", "b3", 0, api.ErrNone}, {"b+a", "b9 a-9", 0, api.ErrRange},
		{"[d,c,b,a]", "a1 c7", 0, api.ErrNone}, {"[d,c,b,a]", "a1 b7", 0, api.ErrRange}, {"[d,c,b,a]", "d-1 b2 a1", 0, api.ErrNone}, {"[d,c,b,a]", "d-1 c3 b2 a1", 0, api.ErrRange}, {"[d,c,b,a]", "d0 c0 b2 a1", 3, api.OK}, {"[d,c,b,a]", "d0 c0 b2 a1 e-1 aa9", 3, api.OK},
		{"a10+a9", "a9", 0, api.ErrNone}, // by bytes
		{"x", "x1 x2", 1, api.OK}, {"x", "x2 x1", 2, api.OK}, {"x", "y3 x2 x1 x9", 2, api.OK}, {"x", "x9 x1", 0, api.ErrRange}, {"x", "x1 x-1", 1, api.OK}, {"x+y", "y0 x1 y2 x9", 1, api.OK}, {"x+y", "x0 x1 y9 y0", 0, api.ErrRange},
		{"x", "y-1 x1 z9", 1, api.OK}, {"x.y", "x1 y9", 1, api.OK}, {"{y:x}", "x2 y-1", 2, api.OK}, {`"y"+x`, "x2 y-1", 2, api.OK},
	} {
		checkLabel(t, l, expr(c.text), labelled(strings.ReplaceAll(c.vars, "a9", "a99")), c.want, c.e)
	}
	odd := []api.Var{{Name: "", Label: 9}, {Name: "x", Label: 2, Type: api.Type{Kind: 99}, Init: api.Value{Kind: -1}}, {Name: "\xff", Label: -1}}
	checkLabel(t, l, expr("x"), odd, 2, api.OK) // of a variable the Name and the Label tell alone
	var none lattice.Lattice
	checkLabel(t, &none, expr("x"), odd, 0, api.ErrRange)
	checkLabel(t, &none, expr("y"), odd, 0, api.ErrNone)
}

// anyExpr answers a right expression over names, of so many within one another at most.
func anyExpr(r *rand.Rand, names []string, depth int) api.Expr {
	if depth <= 1 || r.Intn(5) == 0 {
		if r.Intn(4) == 0 {
			return expr([]string{"1", "3p1", "true", `"s"`, "[]", "{}", "nan", "0"}[r.Intn(8)])
		}
		return vari(names[r.Intn(len(names))])
	}
	x := of([]int{api.EList, api.ERec, api.EIf, api.EField, api.ENeg + r.Intn(api.EStr-api.ENeg+1)}[r.Intn(5)])
	count := 2
	switch x.Kind {
	case api.ENeg, api.ENot, api.ELen, api.EFloat, api.EInt, api.EStr:
		count = 1
	case api.EField:
		count, x.S = 1, []string{"a", "b"}[r.Intn(2)]
	case api.EIf:
		count = 3
	case api.EList:
		count = r.Intn(4)
	case api.ERec:
		count = r.Intn(4)
		x.Names = []string{"a", "b", "c"}[:count]
	}
	for range count {
		x.Kids = append(x.Kids, anyExpr(r, names, depth-1))
	}
	return x
}

// anyVars answers variables of names with labels, a few of which are none where that is asked.
func anyVars(r *rand.Rand, l *lattice.Lattice, names []string, wrong bool) []api.Var {
	var vars []api.Var
	for _, i := range r.Perm(len(names)) {
		v := api.Var{Name: names[i], Label: r.Intn(l.Size())}
		if wrong && r.Intn(3) == 0 {
			v.Label = []int{-1, l.Size(), 8, math.MaxInt}[r.Intn(4)]
		}
		if !wrong || r.Intn(4) > 0 {
			vars = append(vars, v)
		}
		if r.Intn(3) == 0 {
			vars = append(vars, api.Var{Name: v.Name, Label: r.Intn(10) - 1})
		}
	}
	return vars
}

var someNames = []string{"a", "b", "c", "d", "e", "f"}

// P11.2: mixed expressions in all lattices, against the order alone; what they don't read changes nothing.
func TestLabelMany(t *testing.T) {
	r := rand.New(rand.NewSource(3))
	met := map[api.Errno]int{}
	for range 8000 {
		l := lattices()[r.Intn(7)]
		vars := anyVars(r, l, someNames, r.Intn(2) == 0)
		x := anyExpr(r, someNames[:1+r.Intn(6)], 1+r.Intn(5))
		want, e := seekLabel(l, x, vars)
		checkLabel(t, l, x, vars, want, e)
		met[e]++
		reads := seekNames(x)
		for i := range vars {
			if !slices.Contains(reads, vars[i].Name) {
				vars[i].Label = r.Intn(20) - 5
			}
		}
		checkLabel(t, l, x, vars, want, e)
		again := slices.DeleteFunc(vars, func(v api.Var) bool { return !slices.Contains(reads, v.Name) })
		checkLabel(t, l, x, again, want, e)
	}
	if met[api.OK] < 1000 || met[api.ErrNone] < 500 || met[api.ErrRange] < 500 {
		t.Error("hardly any of one kind:", met)
	}
}

func checkAll(t *testing.T, l *lattice.Lattice, list []api.Expr, vars []api.Var, want int, e api.Errno) {
	t.Helper()
	if got, err := All(l, list, vars); got != want || err != e {
		t.Fatalf("%d expressions: %d, error %d, not %d, %d", len(list), got, err, want, e)
	}
}

// P11.2: of several expressions, and of none.
func TestAllPlain(t *testing.T) {
	for _, l := range lattices() {
		for _, vars := range []string{"", "x0", "x-1 y9"} {
			checkAll(t, l, nil, labelled(vars), least(l, nil), api.OK)
			checkAll(t, l, []api.Expr{}, labelled(vars), least(l, nil), api.OK)
			checkAll(t, l, exprs("1", "[]", "nan"), labelled(vars), least(l, nil), api.OK)
		}
	}
	diamond := lattices()[3]
	vars := labelled("a0 b1 c2 d3 w9 v-1")
	for _, c := range []struct {
		list string
		want int
		e    api.Errno
	}{
		{"a", 0, api.OK}, {"b", 1, api.OK}, {"b a", 1, api.OK}, {"a c", 2, api.OK}, {"b c", 3, api.OK}, {"c b", 3, api.OK}, {"a b b", 1, api.OK}, {"1 b 2", 1, api.OK}, {"a a c a a", 2, api.OK}, {"a+b c+a", 3, api.OK}, {"d a", 3, api.OK},
		{"w", 0, api.ErrRange}, {"z", 0, api.ErrNone}, {"w z", 0, api.ErrRange}, {"z w", 0, api.ErrNone}, {"v z", 0, api.ErrRange}, {"b z", 0, api.ErrNone}, {"z b", 0, api.ErrNone}, {"d w", 0, api.ErrRange}, {"w d", 0, api.ErrRange}, {"a b c d w z", 0, api.ErrRange}, {"a b c d z w", 0, api.ErrNone}, {"z+w w", 0, api.ErrRange}, {"z+zz w", 0, api.ErrNone},
	} {
		checkAll(t, diamond, exprs(strings.Fields(c.list)...), vars, c.want, c.e)
	}
}

// P11.2: the first error in the order of the expressions, whichever it is; without a lattice ErrNil alone.
func TestAllFirstError(t *testing.T) {
	l := lattices()[3]
	vars := labelled("a0 b1 w9")
	for i, wrong := range wrongExprs() {
		for _, list := range [][]api.Expr{nil, {wrong}, exprs("a"), exprs("z"), {expr("a"), wrong}} {
			checkAll(t, nil, list, vars, 0, api.ErrNil)
		}
		for _, c := range []struct {
			list []api.Expr
			e    api.Errno
		}{{[]api.Expr{wrong}, api.ErrArg}, {[]api.Expr{expr("a"), wrong}, api.ErrArg}, {[]api.Expr{wrong, expr("z")}, api.ErrArg}, {[]api.Expr{wrong, expr("w")}, api.ErrArg}, {[]api.Expr{expr("z"), wrong}, api.ErrNone}, {[]api.Expr{expr("w"), wrong}, api.ErrRange}, {[]api.Expr{expr("b"), expr("b"), expr("z"), expr("w"), wrong}, api.ErrNone}, {[]api.Expr{expr("b"), expr("1"), wrong, expr("w")}, api.ErrArg}} {
			if _, e := All(l, c.list, vars); e != c.e {
				t.Errorf("the wrong expression %d: error %d, not %d", i, e, c.e)
			}
			checkAll(t, l, c.list, vars, 0, c.e)
		}
	}
}

// P11.2: mixed rows of expressions.
func TestAllMany(t *testing.T) {
	r := rand.New(rand.NewSource(4))
	met := map[api.Errno]int{}
	for range 5000 {
		l := lattices()[r.Intn(7)]
		vars := anyVars(r, l, someNames, r.Intn(2) == 0)
		var list []api.Expr
		var labels []int
		first := api.OK
		for range r.Intn(5) {
			x := anyExpr(r, someNames[:1+r.Intn(6)], 1+r.Intn(3))
			a, e := seekLabel(l, x, vars)
			if r.Intn(8) == 0 {
				x, e = wrongExprs()[r.Intn(20)], api.ErrArg
			}
			if first == api.OK {
				first = e
			}
			list, labels = append(list, x), append(labels, a)
		}
		want := 0
		if first == api.OK {
			want = least(l, labels)
		}
		checkAll(t, l, list, vars, want, first)
		met[first]++
	}
	for _, e := range []api.Errno{api.OK, api.ErrArg, api.ErrNone, api.ErrRange} {
		if met[e] < 300 {
			t.Error("hardly any of one kind:", met)
		}
	}
}

// Rules 5, 7: names are new memory, what is handed in stays, and the same is answered again.
func TestReadsIsNew(t *testing.T) {
	r := rand.New(rand.NewSource(5))
	for range 2000 {
		x := withRoom(anyExpr(r, someNames, 1+r.Intn(5)))
		before := showRoom(x)
		names := Reads(x)
		met := map[uintptr]bool{}
		for _, at := range places(x) {
			met[at] = true
		}
		for _, name := range names {
			if met[uintptr(unsafe.Pointer(unsafe.StringData(name)))] {
				t.Fatal("a name shares its bytes with the expression's")
			}
		}
		want := slices.Clone(names)
		for i := range names[:cap(names)] {
			names[:cap(names)][i] = "scribbled"
		}
		if !slices.Equal(Reads(x), want) || showRoom(x) != before {
			t.Fatal("another answer, or another expression")
		}
		vars := append(make([]api.Var, 0, 20), anyVars(r, lattices()[3], someNames, true)...)
		told := fmt.Sprint(vars[:cap(vars)])
		list := append(make([]api.Expr, 0, 3), x)
		a, e := Label(lattices()[3], x, vars)
		checkAll(t, lattices()[3], list, vars, a, e)
		if showRoom(x) != before || fmt.Sprint(vars[:cap(vars)]) != told || showRoom(list[:3][0]) != before || showRoom(list[:3][2]) != showRoom(api.Expr{}) {
			t.Fatal("what was handed in became another one")
		}
	}
}

// Rule 4: nil and an empty list are one.
func TestNilIsEmpty(t *testing.T) {
	l := lattices()[1]
	filled := api.Expr{Kind: api.EVar, S: "x", Names: []string{}, Kids: []api.Expr{}, V: api.Value{Names: []string{}, Items: []api.Value{}}}
	checkReads(t, filled, []string{"x"})
	checkLabel(t, l, filled, labelled("x0"), 0, api.OK)
	checkLabel(t, l, filled, []api.Var{}, 0, api.ErrNone)
	checkLabel(t, l, filled, nil, 0, api.ErrNone)
	if show(Replace(filled, "y", api.Expr{})) != show(vari("x")) || show(Replace(vari("y"), "y", filled)) != show(vari("x")) {
		t.Error("empty lists are told")
	}
}
