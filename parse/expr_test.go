package parse

import (
	"fmt"
	"math"
	"math/rand"
	"regexp"
	"slices"
	"strconv"
	"strings"
	"testing"
	"unsafe"

	"bascule/api"
	"bascule/float"
	"bascule/value"
)

// kidsOf tells how many Kids a kind has; that a list has any, and a record as many as Names, isn't told here.
var kidsOf = map[int]int{
	api.EConst: 0, api.EVar: 0, api.ENeg: 1, api.ENot: 1, api.EAdd: 2, api.ESub: 2, api.EMul: 2, api.EDiv: 2, api.EMod: 2, api.EEq: 2, api.ELess: 2, api.ELeq: 2, api.EAnd: 2, api.EOr: 2,
	api.EIf: 3, api.EField: 1, api.EIndex: 2, api.ELen: 1, api.EFloat: 1, api.EInt: 1, api.EStr: 1,
}

var (
	isNamed = regexp.MustCompile(`^[a-z][a-z0-9_]{0,29}$`)
	isFloat = regexp.MustCompile(`^(nan|inf)$`)
	isWord  = regexp.MustCompile(`^(true|false|nan|inf|len|float|int|str)$`)
)

func mayBeField(s string) bool { return isNamed.MatchString(s) && !isFloat.MatchString(s) }

// rowHolds tells by the document's words whether an expression is right, but for its Kids and its size.
func rowHolds(x api.Expr) bool {
	wantS, wantV, wantNames, wantKids := x.S == "", identicalValues(x.V, api.Value{}), len(x.Names) == 0, len(x.Kids) == kidsOf[x.Kind]
	switch x.Kind {
	case api.EConst:
		wantV = mayBeConstant(x.V)
	case api.EVar:
		wantS = isNamed.MatchString(x.S) && !isWord.MatchString(x.S)
	case api.EField:
		wantS = mayBeField(x.S)
	case api.EList:
		wantKids = true
	case api.ERec:
		wantKids = len(x.Kids) == len(x.Names)
		wantNames = slices.IsSorted(x.Names) && len(slices.Compact(slices.Clone(x.Names))) == len(x.Names) && !slices.ContainsFunc(x.Names, func(s string) bool { return !mayBeField(s) })
	}
	return x.Kind >= 1 && x.Kind <= 23 && wantS && wantV && wantNames && wantKids
}

func mayBeConstant(v api.Value) bool {
	switch v.Kind {
	case api.VBool:
		return identicalValues(v, api.Value{Kind: v.Kind, N: v.N}) && v.N >= 0 && v.N <= 1
	case api.VInt:
		return identicalValues(v, api.Value{Kind: v.Kind, N: v.N}) && v.N >= 0
	case api.VFloat:
		bits := math.Float64bits(v.F)
		return identicalValues(v, api.Value{Kind: v.Kind, F: v.F}) && bits>>63 == 0 && (bits <= math.Float64bits(math.Inf(1)) || bits == theNaN)
	case api.VStr:
		return identicalValues(v, api.Value{Kind: v.Kind, S: v.S}) && len(v.S) <= 200
	}
	return false
}

// Fields of all sorts: such as some kinds may have, and such as none may.
var (
	someKinds = []int{math.MinInt, -1, 0, 1, 2, 3, 4, 5, 6, 7, 8, 9, 10, 11, 12, 13, 14, 15, 16, 17, 18, 19, 20, 21, 22, 23, 24, 25, 255, 257, math.MaxInt}
	someS     = []string{"", "a", "z9_", "true", "false", "nan", "inf", "len", "float", "int", "str", "nan_", "A", "1", "_", "a b", "é", "a\x00", rep("a", 30), rep("a", 31)}
	someNames = [][]string{nil, {}, {"a"}, {"true"}, {"nan"}, {"inf"}, {""}, {"A"}, {rep("a", 30)}, {rep("a", 31)}, {"a", "b"}, {"b", "a"}, {"a", "a"}, {"a", "inf"}, {"a", "aa"}, {"aa", "a"}, {"a0", "a_"}, {"a_", "a0"}, {"false", "true"}, {"a", "b", "c"}, {"a", "c", "b"}, {"b", "a", "c"}, {"a", "b", "b"}, {"inf", "nan", "z"}}
)

func someV() []api.Value {
	l := []api.Value{{}, {N: 1}, {N: -1}, {F: 1}, {F: math.Copysign(0, -1)}, {F: math.NaN()}, {S: "a"}, {Names: []string{"a"}}, {Items: []api.Value{{}}}, {Names: []string{}, Items: []api.Value{}}, {Kind: -1}, {Kind: 7}, {Kind: api.VList}, {Kind: api.VRec}, {Kind: api.VList, Items: []api.Value{{Kind: api.VInt}}}}
	for kind := api.VBool; kind <= api.VStr; kind++ {
		for _, n := range []int64{0, 1, 2, -1, math.MaxInt64, math.MinInt64} {
			l = append(l, api.Value{Kind: kind, N: n})
		}
		for _, bits := range []uint64{1, 1 << 63, math.Float64bits(1), math.Float64bits(-1), 0x7FEFFFFFFFFFFFFF, 0x7FF0000000000000, 0x7FF0000000000001, theNaN, theNaN + 1, 0x7FFFFFFFFFFFFFFF, 0xFFF0000000000000, 0xFFF8000000000000, 0xFFFFFFFFFFFFFFFF} {
			l = append(l, api.Value{Kind: kind, F: math.Float64frombits(bits)})
		}
		for _, s := range []string{"a", "\x00\xff", rep("x", 200), rep("x", 201)} {
			l = append(l, api.Value{Kind: kind, S: s})
		}
		l = append(l, api.Value{Kind: kind, Names: []string{"a"}}, api.Value{Kind: kind, Items: []api.Value{{Kind: api.VInt}}}, api.Value{Kind: kind, Names: []string{}, Items: []api.Value{}}, api.Value{Kind: kind, N: 1, F: 1, S: "a"})
	}
	return l
}

func checkRight(t *testing.T, x api.Expr, want bool) {
	t.Helper()
	if got := Right(x); got != want {
		t.Fatalf("%s right: %v", show(x), got)
	}
	if s, e := Text(x); want != (e == api.OK) || !want && (s != "" || e != api.ErrForm) {
		t.Fatalf("the text of %s, right %v: %q, error %d", show(x), want, s, e)
	}
}

// P8.3, P8.2: each kind with each field as it may be, and as it may not, and with 0 to 4 Kids.
func TestRightRows(t *testing.T) {
	kids := []api.Expr{vari("a"), vari("b"), vari("c"), vari("d")}
	for _, kind := range someKinds {
		for n := range 5 {
			for _, s := range someS {
				for _, names := range someNames {
					x := api.Expr{Kind: kind, S: s, Names: names, Kids: kids[:n]}
					checkRight(t, x, rowHolds(x))
				}
			}
			for _, v := range someV() {
				for _, s := range []string{"", "a"} {
					for _, names := range someNames[1:4] {
						x := api.Expr{Kind: kind, S: s, V: v, Names: names, Kids: kids[:n]}
						checkRight(t, x, rowHolds(x))
					}
				}
			}
		}
	}
}

// P8.3: some that are right, and some that aren't, one by one.
func TestRightPlain(t *testing.T) {
	a, b := vari("a"), vari("b")
	for _, x := range []api.Expr{a, num(0), num(math.MaxInt64), flo(0), flo(math.Inf(1)), nan(), flo(math.MaxFloat64), str(""), str(rep("x", 200)), truth(0), truth(1), list(), rec(""), rec("false true", a, b), field(a, "true"), index(a, b), of(api.EIf, a, b, a), of(api.ELen, a), of(api.ENeg, num(1))} {
		checkRight(t, x, true)
	}
	for _, x := range []api.Expr{
		{}, num(-1), num(math.MinInt64), flo(math.Copysign(0, -1)), flo(-1), flo(math.Inf(-1)), flo(math.Float64frombits(theNaN + 1)), flo(math.Float64frombits(theNaN | 1<<63)), str(rep("x", 201)), truth(2), truth(-1),
		vari(""), vari("true"), vari("nan"), vari("A"), field(a, "nan"), field(a, "inf"), field(a, ""), rec("nan", a), rec("b a", a, b), rec("a a", a, b), rec("a", a, b), rec("a b", a), of(api.EIf, a, b), of(api.EAdd, a), of(api.EAdd, a, b, a), of(api.ENeg), of(api.ENeg, a, b), of(api.ELen), field(api.Expr{}, "a"),
		con(api.Value{Kind: api.VList}), con(api.Value{Kind: api.VRec}), con(api.Value{}), of(0, a), of(24, a), of(-1),
	} {
		checkRight(t, x, false)
	}
}

// P8.3: a Kid that isn't right, wherever it is.
func TestRightKids(t *testing.T) {
	r := rand.New(rand.NewSource(3))
	wrongs := []api.Expr{{}, num(-1), vari("len"), flo(math.Copysign(0, -1)), of(api.EAdd, vari("a")), {Kind: api.EVar, S: "a", V: api.Value{F: math.Copysign(0, -1)}}, {Kind: api.EVar, S: "a", Names: []string{"a"}}, {Kind: 24}, list(list(vari("")))}
	for range 3000 {
		x := anyRight(r, 1+r.Intn(6))
		checkRight(t, x, true)
		wrong := wrongs[r.Intn(len(wrongs))]
		checkRight(t, replaced(r, x, wrong), false)
	}
}

// replaced answers an expression of which some part is another one.
func replaced(r *rand.Rand, x, by api.Expr) api.Expr {
	if len(x.Kids) == 0 || r.Intn(4) == 0 {
		return by
	}
	x.Kids = slices.Clone(x.Kids)
	i := r.Intn(len(x.Kids))
	x.Kids[i] = replaced(r, x.Kids[i], by)
	return x
}

// anyRight answers a right expression of so many within one another at most, of 200 parts at most.
func anyRight(r *rand.Rand, depth int) api.Expr {
	for {
		if x := anyShaped(r, depth); Parts(x) <= 200 {
			return x
		}
	}
}

func anyShaped(r *rand.Rand, depth int) api.Expr {
	if depth <= 1 || r.Intn(6) == 0 {
		return anyLeaf(r)
	}
	kind := api.ENeg + r.Intn(api.EStr-api.ENeg+1)
	n, is := kidsOf[kind]
	if !is {
		n = r.Intn(5)
	}
	x := api.Expr{Kind: kind}
	for range n {
		x.Kids = append(x.Kids, anyShaped(r, depth-1))
	}
	switch kind {
	case api.EField:
		x.S = []string{"a", "b_1", "true", "len", rep("f", 30)}[r.Intn(5)]
	case api.ERec:
		x.Names = []string{"a", "b", "b0", "str", "x"}[:n]
	}
	return x
}

func anyLeaf(r *rand.Rand) api.Expr {
	switch r.Intn(6) {
	case 0:
		return num([]int64{0, 1, 7, math.MaxInt64}[r.Intn(4)])
	case 1:
		return []api.Expr{flo(0), flo(1.5), flo(math.Inf(1)), nan(), flo(math.SmallestNonzeroFloat64), flo(math.MaxFloat64), flo(0.1)}[r.Intn(7)]
	case 2:
		return str([]string{"", "a", `"`, `\`, `\"`, "\x00\xff", "é ]", rep(`"`, 200)}[r.Intn(8)])
	case 3:
		return truth(int64(r.Intn(2)))
	case 4:
		return []api.Expr{list(), rec("")}[r.Intn(2)]
	}
	return vari([]string{"a", "b", "nan_", "x1", rep("v", 30)}[r.Intn(5)])
}

// flat answers an expression of so many parts, 5 within one another at most.
func flat(parts int) api.Expr {
	x := list()
	for left := parts - 1; left > 0; {
		switch {
		case left >= 5:
			x.Kids, left = append(x.Kids, of(api.ELen, of(api.EAdd, vari("a"), of(api.ENeg, num(1))))), left-5
		default:
			x.Kids, left = append(x.Kids, vari("b")), left-1
		}
	}
	return x
}

// P8.3: 200 parts, and 201.
func TestRightParts(t *testing.T) {
	for _, n := range []int{1, 2, 5, 6, 100, 199, 200, 201, 202, 205, 250, 499, 500, 501, 505, 1000} {
		if got := Parts(flat(n)); got != min(n, 500) {
			t.Errorf("%d parts: %d", n, got)
		}
		checkRight(t, flat(n), n <= 200)
		checkRight(t, list(slices.Repeat([]api.Expr{num(1)}, n-1)...), n <= 200)
		checkRight(t, of(api.EIf, flat(n), vari("a"), vari("b")), n+3 <= 200)
		checkRight(t, of(api.EIf, vari("a"), vari("b"), flat(n)), n+3 <= 200)
	}
	names := make([]string, 200)
	for i := range names {
		names[i] = fmt.Sprintf("n%03d", i)
	}
	checkRight(t, rec(strings.Join(names[:199], " "), slices.Repeat([]api.Expr{list()}, 199)...), true)
	checkRight(t, rec(strings.Join(names, " "), slices.Repeat([]api.Expr{list()}, 200)...), false)
}

// P8.3: 12 within one another, and 13, through each Kid of each kind.
func TestRightDepth(t *testing.T) {
	for kind := api.ENeg; kind <= api.EStr; kind++ {
		n, is := kidsOf[kind]
		if !is {
			n = 2
		}
		for at := range n {
			for _, inner := range []api.Expr{vari("a"), num(1), list(), rec("")} {
				x := inner
				for depth := 2; depth <= 15; depth++ {
					x = around(kind, n, at, x)
					checkRight(t, x, depth <= 12)
				}
			}
		}
	}
}

// around answers an expression with x as one of its Kids.
func around(kind, n, at int, x api.Expr) api.Expr {
	kids := slices.Repeat([]api.Expr{vari("b")}, n)
	kids[at] = x
	whole := of(kind, kids...)
	switch kind {
	case api.ERec:
		whole.Names = []string{"a", "b"}
	case api.EField:
		whole.S = "a"
	}
	return whole
}

// endless answers a list that has itself within itself.
func endless() api.Expr {
	x := list(num(1), api.Expr{})
	x.Kids[1] = x
	return x
}

// shared answers a list of 2^depth parts and more, which needs little room.
func shared(depth int) api.Expr {
	x := num(1)
	for range depth {
		x = list(x, x)
	}
	return x
}

// P8.3: parts are those of any expression, right or not, and are counted up to 500.
func TestParts(t *testing.T) {
	for _, kind := range someKinds {
		for _, n := range []int{0, 1, 2, 3, 498, 499, 500, 501, 100000} {
			if got := Parts(of(kind, make([]api.Expr, n)...)); got != min(n+1, 500) {
				t.Errorf("%d Kids of the kind %d: %d parts", n, kind, got)
			}
		}
	}
	if n := Parts(api.Expr{V: api.Value{Kind: api.VList, Items: make([]api.Value, 9)}, Names: []string{"a", "b"}, S: "c"}); n != 1 {
		t.Errorf("values and names: %d parts", n)
	}
	for _, half := range []int{200, 248, 249, 250, 300, 600} {
		if got := Parts(of(0, flat(half), flat(half), flat(3))); got != min(2*half+4, 500) {
			t.Errorf("twice %d: %d parts", half, got)
		}
	}
	r := rand.New(rand.NewSource(5))
	for range 1000 {
		x := anyShaped(r, 8)
		if want, _ := size(x); Parts(x) != min(want, 500) {
			t.Errorf("%d parts: %d", want, Parts(x))
		}
	}
	for depth, want := range map[int]int{1: 1, 499: 499, 500: 500, 501: 500, 1 << 16: 500} {
		if got := Parts(minus(depth-1, vari("a"))); got != want {
			t.Errorf("%d within one another: %d parts", depth, got)
		}
	}
}

// Rule 1: what has itself within itself, or shares its parts, is looked at to an end.
func TestEnds(t *testing.T) {
	if Parts(endless()) != 500 || Parts(shared(60)) != 500 || Parts(shared(6)) != 127 {
		t.Error("parts without end")
	}
	checkRight(t, endless(), false)
	checkRight(t, shared(60), false)
	checkRight(t, shared(6), true)
	checkRight(t, shared(7), false)
	within := api.Value{Kind: api.VList, Items: make([]api.Value, 2)}
	within.Items[0], within.Items[1] = within, within
	for kind := range 25 {
		for _, v := range []api.Value{within, {Items: within.Items}, {Kind: api.VStr, Items: within.Items}} {
			checkRight(t, api.Expr{Kind: kind, V: v}, false)
		}
	}
	deep := minus(1<<16-1, vari("a"))
	checkRight(t, deep, false)
	if !Same(deep, minus(1<<16-1, vari("a"))) || Same(deep, minus(1<<16-1, vari("b"))) || Same(deep, minus(1<<16-2, vari("a"))) {
		t.Error("nested deep")
	}
}

// P8.3: those that are the same, and those that differ in one field alone, right or not.
func TestSame(t *testing.T) {
	same := func(a, b api.Expr, want bool) {
		t.Helper()
		if Same(a, b) != want || Same(b, a) != want {
			t.Errorf("%s and %s: %v, %v", show(a), show(b), Same(a, b), Same(b, a))
		}
	}
	whole := api.Expr{Kind: api.ERec, S: "s", V: api.Value{Kind: api.VStr, S: "v"}, Names: []string{"a", "b"}, Kids: []api.Expr{vari("a"), num(1)}}
	same(whole, whole, true)
	same(api.Expr{}, api.Expr{}, true)
	same(api.Expr{Kind: 5, Names: []string{}, Kids: []api.Expr{}, V: api.Value{Names: []string{}, Items: []api.Value{}}}, api.Expr{Kind: 5}, true)
	for _, other := range []func(x *api.Expr){
		func(x *api.Expr) { x.Kind++ }, func(x *api.Expr) { x.Kind = 0 }, func(x *api.Expr) { x.Kind = api.EList }, func(x *api.Expr) { x.S = "" }, func(x *api.Expr) { x.S = "t" }, func(x *api.Expr) { x.V.S = "w" }, func(x *api.Expr) { x.V = api.Value{} },
		func(x *api.Expr) { x.Names = nil }, func(x *api.Expr) { x.Names = []string{"a"} }, func(x *api.Expr) { x.Names = []string{"a", "c"} }, func(x *api.Expr) { x.Names = []string{"b", "a"} }, func(x *api.Expr) { x.Names = []string{"a", "b", "c"} },
		func(x *api.Expr) { x.Kids = nil }, func(x *api.Expr) { x.Kids = x.Kids[:1] }, func(x *api.Expr) { x.Kids = []api.Expr{vari("a"), num(2)} }, func(x *api.Expr) { x.Kids = []api.Expr{num(1), vari("a")} }, func(x *api.Expr) { x.Kids = append(x.Kids[:2:2], num(1)) },
	} {
		differs := whole
		other(&differs)
		same(whole, differs, false)
		same(list(num(1), whole), list(num(1), differs), false)
		same(of(-1, whole), of(-1, differs), false)
	}
	for _, a := range someV() {
		for _, b := range someV() {
			same(con(a), con(b), value.Same(a, b))
		}
	}
	same(nan(), flo(math.Float64frombits(theNaN+1)), true)
	same(flo(0), flo(math.Copysign(0, -1)), false)
	same(flo(1), num(1), false)
	same(num(1), truth(1), false)
	same(vari("a"), field(vari("a"), "a"), false)
	same(of(api.EAdd, vari("a"), vari("b")), of(api.EAdd, vari("b"), vari("a")), false)
	r := rand.New(rand.NewSource(9))
	for range 3000 {
		a, b := anyRight(r, r.Intn(4)), anyRight(r, r.Intn(4))
		same(a, b, identical(a, b)) // right ones have one NaN
		same(a, replaced(r, a, api.Expr{Kind: 99}), false)
		c := replaced(r, a, anyLeaf(r))
		same(a, c, identical(a, c))
	}
}

// P8.2: each kind's text.
func TestText(t *testing.T) {
	a, b, c := vari("a"), vari("b"), vari("c")
	texts := map[string]api.Expr{
		"true": truth(1), "false": truth(0), "0": num(0), "9223372036854775807": num(math.MaxInt64), "0p0": flo(0), "3p-1": flo(1.5), "inf": flo(math.Inf(1)), "nan": nan(), "1p-1074": flo(math.SmallestNonzeroFloat64),
		`""`: str(""), `"a b"`: str("a b"), `"\"\\"`: str(`"\`), "\"\x00\xff\n\"": str("\x00\xff\n"),
		"a": a, rep("v", 30): vari(rep("v", 30)), "(-a)": of(api.ENeg, a), "(!a)": of(api.ENot, a), "(-1)": of(api.ENeg, num(1)), "(-(-a))": of(api.ENeg, of(api.ENeg, a)), "(!(-a))": of(api.ENot, of(api.ENeg, a)),
		"(a?b:c)": of(api.EIf, a, b, c), "(1?2:3)": of(api.EIf, num(1), num(2), num(3)), "[]": list(), "[a]": list(a), "[a,1,b]": list(a, num(1), b), "{}": rec(""), "{a:b}": rec("a", b), "{a:1,true:c}": rec("a true", num(1), c),
		"a.b": field(a, "b"), "a.true": field(a, "true"), "a.b.c": field(field(a, "b"), "c"), "(1).a": field(num(1), "a"), `("s").a`: field(str("s"), "a"), "(true).a": field(truth(1), "a"), "(nan).a": field(nan(), "a"), "(3p-1).len": field(flo(1.5), "len"),
		"a[b]": index(a, b), "a[1]": index(a, num(1)), "(1)[2]": index(num(1), num(2)), `("s")["t"]`: index(str("s"), str("t")), "(1)[2][3]": index(index(num(1), num(2)), num(3)), "(1).a[2]": index(field(num(1), "a"), num(2)), "a[(1).a]": index(a, field(num(1), "a")), "[1][2]": index(list(num(1)), num(2)), "{a:1}.a": field(rec("a", num(1)), "a"), "{a:(1).a}": rec("a", field(num(1), "a")),
		"(-1).a": field(of(api.ENeg, num(1)), "a"), "(a+b)[(a-b)]": index(of(api.EAdd, a, b), of(api.ESub, a, b)), "(a?b:c).a": field(of(api.EIf, a, b, c), "a"),
		"len(a)": of(api.ELen, a), "float(a)": of(api.EFloat, a), "int(a)": of(api.EInt, a), "str(a)": of(api.EStr, a), "len(1)": of(api.ELen, num(1)), `str("s")`: of(api.EStr, str("s")), "len((a+b))": of(api.ELen, of(api.EAdd, a, b)), "len(a).b": field(of(api.ELen, a), "b"),
		"((a+b)+c)": of(api.EAdd, of(api.EAdd, a, b), c), "(a+(b+c))": of(api.EAdd, a, of(api.EAdd, b, c)),
	}
	for _, o := range infix {
		texts["(a"+o+"b)"] = of(kinds[o], a, b)
		texts["(1"+o+"(b"+o+"2))"] = of(kinds[o], num(1), of(kinds[o], b, num(2)))
	}
	for want, x := range texts {
		if got, e := Text(x); got != want || e != api.OK {
			t.Errorf("%s: %q, error %d, not %q", show(x), got, e, want)
		}
		check(t, want, x)
		checkRight(t, x, true)
	}
}

// seekText writes by hand what Text is to answer.
func seekText(x api.Expr) string {
	first := func() string {
		if s := seekText(x.Kids[0]); x.Kids[0].Kind != api.EConst {
			return s
		} else {
			return "(" + s + ")"
		}
	}
	for sign, kind := range kinds {
		if kind == x.Kind {
			return "(" + seekText(x.Kids[0]) + sign + seekText(x.Kids[1]) + ")"
		}
	}
	for word, kind := range calls {
		if kind == x.Kind {
			return word + "(" + seekText(x.Kids[0]) + ")"
		}
	}
	switch x.Kind {
	case api.EConst:
		return seekConstant(x.V)
	case api.EVar:
		return x.S
	case api.ENeg:
		return "(-" + seekText(x.Kids[0]) + ")"
	case api.ENot:
		return "(!" + seekText(x.Kids[0]) + ")"
	case api.EIf:
		return "(" + seekText(x.Kids[0]) + "?" + seekText(x.Kids[1]) + ":" + seekText(x.Kids[2]) + ")"
	case api.EField:
		return first() + "." + x.S
	case api.EIndex:
		return first() + "[" + seekText(x.Kids[1]) + "]"
	}
	var all []string
	for i, kid := range x.Kids {
		all = append(all, seekText(kid))
		if x.Kind == api.ERec {
			all[i] = x.Names[i] + ":" + all[i]
		}
	}
	if x.Kind == api.ERec {
		return "{" + strings.Join(all, ",") + "}"
	}
	return "[" + strings.Join(all, ",") + "]"
}

func seekConstant(v api.Value) string {
	switch v.Kind {
	case api.VBool:
		return strconv.FormatBool(v.N == 1)
	case api.VInt:
		return strconv.FormatInt(v.N, 10)
	case api.VFloat:
		return float.Text(v.F)
	}
	return `"` + regexp.MustCompile(`["\\]`).ReplaceAllString(v.S, `\$0`) + `"`
}

// P8.2, P8.4: any right expression's text, and that it is read again as it was, if it isn't too long.
func TestTextsOfMany(t *testing.T) {
	r := rand.New(rand.NewSource(4))
	short, long := 0, 0
	for range 7000 {
		x := anyRight(r, 1+r.Intn(12))
		want := seekText(x)
		if got, e := Text(x); got != want || e != api.OK {
			t.Fatalf("%s: %.300q, error %d, not %.300q", show(x), got, e, want)
		}
		if len(want) > 2000 {
			long++
			checkError(t, want, 0, api.ErrRange)
			continue
		}
		short++
		check(t, want, x)
		if back, _, _ := Parse(want); !Same(back, x) {
			t.Fatalf("%s isn't the same", want)
		}
	}
	if short < 1000 || long < 10 {
		t.Error("hardly any", short, long)
	}
}

// P8.4: texts of 2000 bytes, and of 2001, and the deepest ones.
func TestTextsAtTheEdge(t *testing.T) {
	ten := list(slices.Repeat([]api.Expr{str(rep("x", 197))}, 10)...) // 200 bytes and a comma or a bracket each
	ten.Kids[9] = str(rep("x", 187))
	if s, e := Text(ten); len(s) != 2001-10 || e != api.OK {
		t.Fatal(len(s), e)
	}
	for more := range 12 {
		ten.Kids[9] = str(rep("x", 187+more))
		s, e := Text(ten)
		if len(s) != 1991+more || e != api.OK {
			t.Fatal(len(s), e)
		}
		if len(s) <= 2000 {
			check(t, s, ten)
		} else {
			checkError(t, s, 0, api.ErrRange)
		}
	}
	for kind := api.ENeg; kind <= api.EStr; kind++ {
		n, is := kidsOf[kind]
		if !is {
			n = 2
		}
		for at := range n {
			x := num(1)
			for range 11 {
				x = around(kind, n, at, x)
			}
			s, _ := Text(x)
			check(t, s, x)
		}
	}
}

// Rule 7a: a text is new memory, also where it is but a name.
func TestTextIsNew(t *testing.T) {
	for _, x := range []api.Expr{vari("abc"), field(vari("abc"), "def"), str("abc"), rec("abc", vari("def")), list(vari("abc")), index(vari("abc"), vari("def"))} {
		s, _ := Text(x)
		from, to := uintptr(unsafe.Pointer(unsafe.StringData(s))), uintptr(len(s))
		for _, own := range append([]string{x.S, x.V.S}, x.Names...) {
			if at := uintptr(unsafe.Pointer(unsafe.StringData(own))); own != "" && at >= from && at < from+to {
				t.Errorf("%q shares %q", s, own)
			}
		}
	}
}

// Rule 4: nil and an empty list are one.
func TestNilIsEmpty(t *testing.T) {
	for _, kind := range someKinds {
		for _, s := range []string{"", "a"} {
			bare := api.Expr{Kind: kind, S: s, V: api.Value{Kind: api.VInt}}
			filled := api.Expr{Kind: kind, S: s, V: api.Value{Kind: api.VInt, Names: []string{}, Items: []api.Value{}}, Names: []string{}, Kids: []api.Expr{}}
			a, ea := Text(bare)
			b, eb := Text(filled)
			if Right(bare) != Right(filled) || !Same(bare, filled) || Parts(filled) != 1 || a != b || ea != eb {
				t.Error("empty lists of the kind", kind)
			}
		}
	}
}

// Rule 5: what is handed in stays as it is, its spare room too.
func TestArgumentsStay(t *testing.T) {
	r := rand.New(rand.NewSource(6))
	for range 500 {
		a, b := withRoom(anyRight(r, 4)), withRoom(anyRight(r, 4))
		if r.Intn(2) == 0 {
			a = withRoom(replaced(r, a, api.Expr{Kind: 17, Names: []string{"b", "a"}, Kids: []api.Expr{num(-1)}}))
		}
		before := fmt.Sprintf("%+v %+v", showRoom(a), showRoom(b))
		Right(a)
		Parts(a)
		Same(a, b)
		Text(a)
		if after := fmt.Sprintf("%+v %+v", showRoom(a), showRoom(b)); after != before {
			t.Fatalf("%s became %s", before, after)
		}
	}
}

// withRoom answers an expression whose lists have spare room.
func withRoom(x api.Expr) api.Expr {
	x.Names = append(make([]string, 0, len(x.Names)+2), x.Names...)
	kids := make([]api.Expr, 0, len(x.Kids)+2)
	for _, kid := range x.Kids {
		kids = append(kids, withRoom(kid))
	}
	x.Kids = kids
	return x
}

// showRoom answers an expression with its spare room laid open.
func showRoom(x api.Expr) any {
	var kids []any
	for _, kid := range x.Kids[:cap(x.Kids)] {
		kids = append(kids, showRoom(kid))
	}
	return []any{x.Kind, x.S, x.V, x.Names[:cap(x.Names)], kids}
}
