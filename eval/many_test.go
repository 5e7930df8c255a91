package eval

import (
	"bytes"
	"fmt"
	"maps"
	"math"
	"math/big"
	"math/rand"
	"slices"
	"testing"
	"unsafe"

	"bascule/api"
	"bascule/float"
	"bascule/parse"
	"bascule/types"
	"bascule/value"
)

// What expressions come to, by the document's words, reckoned by hand over Go's own values: bool, *big.Int, float64, string, []any and map[string]any.

func opened(v api.Value) any {
	switch v.Kind {
	case api.VBool:
		return v.N == 1
	case api.VInt:
		return big.NewInt(v.N)
	case api.VFloat:
		return v.F
	case api.VStr:
		return v.S
	case api.VList:
		all := []any{}
		for _, item := range v.Items {
			all = append(all, opened(item))
		}
		return all
	}
	all := map[string]any{}
	for i, name := range v.Names {
		all[name] = opened(v.Items[i])
	}
	return all
}

func closed(a any) api.Value {
	switch a := a.(type) {
	case bool:
		return yes(a)
	case *big.Int:
		return num(a.Int64())
	case float64:
		return flo(canonical(a))
	case string:
		return str(a)
	case []any:
		v := list()
		for _, item := range a {
			v.Items = append(v.Items, closed(item))
		}
		return v
	}
	v := rec("")
	all := a.(map[string]any)
	v.Names = slices.Sorted(maps.Keys(all))
	for _, name := range v.Names {
		v.Items = append(v.Items, closed(all[name]))
	}
	return v
}

// size answers how many parts there are, and how many of them within one another.
func size(a any) (parts, depth int) {
	var within []any
	switch a := a.(type) {
	case []any:
		within = a
	case map[string]any:
		within = slices.Collect(maps.Values(a))
	}
	for _, item := range within {
		p, d := size(item)
		parts, depth = parts+p, max(depth, d)
	}
	return parts + 1, depth + 1
}

// stopped is what the seeker gives up with.
type stopped api.Errno

func stop(e api.Errno) any { panic(stopped(e)) }

// seek answers what a right expression comes to with such variables.
func seek(x api.Expr, vars map[string]any) (v api.Value, e api.Errno) {
	defer func() {
		if why := recover(); why != nil {
			v, e = api.Value{}, api.Errno(why.(stopped))
		}
	}()
	return closed(seeked(x, vars)), api.OK
}

func seeked(x api.Expr, vars map[string]any) any {
	kid := func(i int) any { return seeked(x.Kids[i], vars) }
	holds := func(i int) bool {
		b, is := kid(i).(bool)
		if !is {
			stop(api.ErrType)
		}
		return b
	}
	switch x.Kind {
	case api.EConst:
		return opened(x.V)
	case api.EVar:
		if v, is := vars[x.S]; is {
			return v
		}
		return stop(api.ErrNone)
	case api.EIf:
		return kid(map[bool]int{true: 1, false: 2}[holds(0)])
	case api.EAnd, api.EOr:
		if first := holds(0); first == (x.Kind == api.EOr) {
			return first
		}
		return holds(1)
	}
	var kids []any
	for i := range x.Kids {
		kids = append(kids, kid(i))
	}
	v := seekOver(x, kids)
	parts, depth := size(v)
	s, _ := v.(string)
	if parts > 200 || depth > 12 || len(s) > 200 {
		return stop(api.ErrRange)
	}
	return v
}

func seekOver(x api.Expr, kids []any) any {
	switch x.Kind {
	case api.EList:
		return kids
	case api.ERec:
		all := map[string]any{}
		for i, name := range x.Names {
			all[name] = kids[i]
		}
		return all
	case api.EField:
		if all, is := kids[0].(map[string]any); is {
			if v, is := all[x.S]; is {
				return v
			}
			return stop(api.ErrField)
		}
		return stop(api.ErrType)
	case api.EIndex:
		all, is := kids[0].([]any)
		if at, isInt := kids[1].(*big.Int); is && isInt {
			for i, v := range all {
				if at.Cmp(big.NewInt(int64(i))) == 0 {
					return v
				}
			}
			return stop(api.ErrIndex)
		}
		return stop(api.ErrType)
	case api.EEq:
		if fmt.Sprintf("%T", kids[0]) != fmt.Sprintf("%T", kids[1]) {
			return stop(api.ErrType)
		}
		return alike(kids[0], kids[1])
	}
	if len(kids) == 1 {
		return seekOne(x.Kind, kids[0])
	}
	return seekTwo(x.Kind, kids[0], kids[1])
}

func alike(a, b any) bool {
	switch a := a.(type) {
	case *big.Int:
		b, is := b.(*big.Int)
		return is && a.Cmp(b) == 0
	case []any:
		b, is := b.([]any)
		return is && slices.EqualFunc(a, b, alike)
	case map[string]any:
		b, is := b.(map[string]any)
		return is && maps.EqualFunc(a, b, alike)
	}
	return a == b // bools, floats (as numbers), strings
}

func in64(n *big.Int) any {
	if !n.IsInt64() {
		return stop(api.ErrOverflow)
	}
	return n
}

func seekOne(kind int, a any) any {
	switch a := a.(type) {
	case bool:
		switch kind {
		case api.ENot:
			return !a
		case api.EStr:
			return fmt.Sprint(a)
		}
	case *big.Int:
		switch kind {
		case api.ENeg:
			return in64(new(big.Int).Neg(a))
		case api.EFloat:
			f, _ := new(big.Float).SetInt(a).Float64()
			return f
		case api.EStr:
			return a.String()
		}
	case float64:
		switch kind {
		case api.ENeg:
			return math.Float64frombits(math.Float64bits(a) ^ 1<<63)
		case api.EStr:
			return float.Text(a)
		case api.EInt:
			if a != a || math.IsInf(a, 0) {
				return stop(api.ErrRange)
			}
			if whole, _ := big.NewFloat(a).Int(nil); whole.IsInt64() {
				return whole
			}
			return stop(api.ErrRange)
		}
	case string:
		switch kind {
		case api.ELen:
			return big.NewInt(int64(len(a)))
		case api.EStr:
			return a
		}
	case []any:
		if kind == api.ELen {
			return big.NewInt(int64(len(a)))
		}
	}
	return stop(api.ErrType)
}

func seekTwo(kind int, a, b any) any {
	switch a := a.(type) {
	case *big.Int:
		if b, is := b.(*big.Int); is {
			return seekInts(kind, a, b)
		}
	case float64:
		b, is := b.(float64)
		all := map[int]func() any{api.EAdd: func() any { return a + b }, api.ESub: func() any { return a - b }, api.EMul: func() any { return a * b }, api.EDiv: func() any { return a / b }, api.ELess: func() any { return a < b }, api.ELeq: func() any { return a <= b }}
		if is && all[kind] != nil {
			return all[kind]()
		}
	case string:
		b, is := b.(string)
		first := bytes.Compare([]byte(a), []byte(b))
		all := map[int]any{api.EAdd: a + b, api.ELess: first < 0, api.ELeq: first <= 0}
		if is && all[kind] != nil {
			return all[kind]
		}
	case []any:
		if b, is := b.([]any); is && kind == api.EAdd {
			return slices.Concat(a, b)
		}
	}
	return stop(api.ErrType)
}

func seekInts(kind int, a, b *big.Int) any {
	switch kind {
	case api.EAdd:
		return in64(new(big.Int).Add(a, b))
	case api.ESub:
		return in64(new(big.Int).Sub(a, b))
	case api.EMul:
		return in64(new(big.Int).Mul(a, b))
	case api.ELess:
		return a.Cmp(b) < 0
	case api.ELeq:
		return a.Cmp(b) <= 0
	}
	if b.Sign() == 0 {
		return stop(api.ErrDivide)
	}
	if kind == api.EMod {
		return new(big.Int).Rem(a, b)
	}
	return in64(new(big.Int).Quo(a, b))
}

// someVars are variables with values of all sorts, by names that tell nothing.
func someVars() (named, map[string]any) {
	var n named
	byName := map[string]any{}
	f := bits(theNaN | 1<<63)
	for i, v := range []api.Value{yes(false), yes(true), num(0), num(1), num(-1), num(2), num(most), num(least), flo(0), flo(minus0), flo(1.5), flo(math.Inf(1)), flo(math.Inf(-1)), flo(f), flo(1e300), str(""), str("a"), str("ab"), str(rep("x", 199)), list(), list(num(1)), list(str("a"), num(2)), list(flo(f)), list(list(num(0))), rec(""), rec("a", num(1)), rec("a", flo(f)), rec("a b", str("b"), list(num(1))), rec("b", num(1)), flat(199), nested(11)} {
		n.add(fmt.Sprint("v", i), v)
		byName[fmt.Sprint("v", i)] = opened(v)
	}
	return n, byName
}

// kidsOf tells how many Kids a kind has; those of lists and records are told where they are made.
var kidsOf = map[int]int{
	api.ENeg: 1, api.ENot: 1, api.EAdd: 2, api.ESub: 2, api.EMul: 2, api.EDiv: 2, api.EMod: 2, api.EEq: 2, api.ELess: 2, api.ELeq: 2, api.EAnd: 2, api.EOr: 2, api.EIf: 3, api.EField: 1, api.EIndex: 2, api.ELen: 1, api.EFloat: 1, api.EInt: 1, api.EStr: 1,
}

// choose puts each row of variables into the Kids.
func choose(kids []api.Expr, n named, then func()) {
	if len(kids) == 0 {
		then()
		return
	}
	for _, v := range n.vars {
		kids[0] = vari(v.Name)
		choose(kids[1:], n, then)
	}
}

// P10.1: each kind with Kids of each kind of value.
func TestEvalRows(t *testing.T) {
	n, byName := someVars()
	came := map[string]int{}
	try := func(x api.Expr) {
		t.Helper()
		want, e := seek(x, byName)
		check(t, x, n, want, e)
		came[fmt.Sprint(x.Kind, " ", e)]++
	}
	for kind := api.EVar; kind <= api.EStr; kind++ {
		counts := []int{kidsOf[kind]}
		if kind == api.EList || kind == api.ERec {
			counts = []int{0, 1, 2}
		}
		for _, count := range counts {
			x := api.Expr{Kind: kind, Kids: make([]api.Expr, count)}
			choose(x.Kids, n, func() {
				switch kind {
				case api.EVar:
					for _, name := range []string{"v0", "v4", "v30", "v31", "w"} {
						try(vari(name))
					}
					return
				case api.EField:
					for _, name := range []string{"a", "b", "c", "aa"} {
						x.S = name
						try(x)
					}
					return
				case api.ERec:
					x.Names = []string{"a", "b", "c"}[:count]
				}
				try(x)
			})
		}
	}
	for kind := api.ENeg; kind <= api.EStr; kind++ {
		if came[fmt.Sprint(kind, " ", api.OK)] == 0 || kind != api.ERec && kind != api.EList && came[fmt.Sprint(kind, " ", api.ErrType)] == 0 {
			t.Error("never came:", kind, came)
		}
	}
}

// P10.1: mixed expressions of any depth.
func TestEvalMany(t *testing.T) {
	n, byName := someVars()
	r := rand.New(rand.NewSource(1))
	came := map[api.Errno]int{}
	for range 60000 {
		x := anyExpr(r, n, 1+r.Intn(7))
		if !parse.Right(x) {
			continue
		}
		want, e := seek(x, byName)
		check(t, x, n, want, e)
		came[e]++
		v, is := Const(x)
		if constant := len(variables(x)) == 0 && e == api.OK; is != constant || constant && show(v) != show(want) || !constant && show(v) != show(api.Value{}) {
			s, _ := parse.Text(x)
			t.Fatalf("%s: constant: %v, %s", s, is, show(v))
		}
	}
	for _, e := range []api.Errno{api.OK, api.ErrType, api.ErrNone, api.ErrField, api.ErrIndex, api.ErrDivide, api.ErrOverflow, api.ErrRange} {
		if came[e] < 50 {
			t.Error("hardly ever came:", e, came)
		}
	}
}

// anyExpr answers an expression of so many within one another at most, most of them with a value.
func anyExpr(r *rand.Rand, n named, depth int) api.Expr {
	if depth <= 1 || r.Intn(7) == 0 {
		if r.Intn(3) == 0 {
			return expr([]string{"1", "3p1", "true", "false", `"s"`, "[]", "{}", "nan", "0", "y", "9223372036854775807"}[r.Intn(11)])
		}
		return vari(n.vars[r.Intn(len(n.vars))].Name)
	}
	kind := []int{api.EList, api.ERec, api.EIf, api.EAnd, api.EOr, api.EEq, api.EAdd, api.EField, api.EIndex, api.EAdd + r.Intn(5), api.ENeg + r.Intn(api.EStr-api.ENeg+1)}[r.Intn(11)]
	x := api.Expr{Kind: kind}
	count := kidsOf[kind]
	switch kind {
	case api.EList:
		count = r.Intn(4)
	case api.ERec:
		count = r.Intn(4)
		x.Names = []string{"a", "b", "c"}[:count]
	case api.EField:
		x.S = []string{"a", "b"}[r.Intn(2)]
	}
	for i := range count {
		x.Kids = append(x.Kids, anyExpr(r, n, depth-1))
		if i > 0 && r.Intn(2) == 0 { // that some are of one kind
			x.Kids[i] = x.Kids[i-1]
		}
	}
	if r.Intn(4) > 0 {
		favour(r, &x, n, depth)
	}
	return x
}

// favour puts what its kind asks for into an expression's first Kid, or its index.
func favour(r *rand.Rand, x *api.Expr, n named, depth int) {
	switch x.Kind {
	case api.EIf, api.EAnd, api.EOr:
		x.Kids[0] = api.Expr{Kind: api.EEq, Kids: []api.Expr{vari("v3"), expr([]string{"1", "2"}[r.Intn(2)])}}
	case api.EField:
		x.Kids[0] = api.Expr{Kind: api.ERec, Names: []string{"a"}, Kids: []api.Expr{anyExpr(r, n, depth-2)}}
	case api.EIndex:
		x.Kids[0] = api.Expr{Kind: api.EList, Kids: []api.Expr{anyExpr(r, n, depth-2), anyExpr(r, n, depth-2)}}
		x.Kids[1] = expr([]string{"0", "1", "2", "v4"}[r.Intn(4)])
	}
}

// variables are the names that stand in an expression.
func variables(x api.Expr) map[string]bool {
	all := map[string]bool{}
	if x.Kind == api.EVar {
		all[x.S] = true
	}
	for _, kid := range x.Kids {
		maps.Copy(all, variables(kid))
	}
	return all
}

// P10.3: the variables that stand in an expression tell alone, wherever they stand among others.
func TestEvalHangsOnItsOwn(t *testing.T) {
	n, _ := someVars()
	r := rand.New(rand.NewSource(2))
	for range 20000 {
		x := anyExpr(r, n, 1+r.Intn(5))
		if !parse.Right(x) {
			continue
		}
		want, e := Eval(x, n.vars, n.values)
		own := variables(x)
		var fewer, other named
		for i, v := range n.vars {
			if own[v.Name] {
				fewer.add(v.Name, n.values[i])
				v.Label, v.Init, v.Type = r.Intn(9), str("q"), ty(r.Intn(9))
			}
			other.vars, other.values = append(other.vars, v), append(other.values, n.values[i])
			if !own[v.Name] {
				other.values[i] = n.values[r.Intn(len(n.values))]
				other.vars[i].Name = []string{v.Name, "w", ""}[r.Intn(3)]
			}
		}
		fewer.add("more", num(9))
		check(t, x, fewer, want, e)
		check(t, x, other, want, e)
		check(t, x, n, want, e)
	}
}

// anyType answers a right type of so many within one another at most, without TNone.
func anyType(r *rand.Rand, depth int) api.Type {
	switch k := r.Intn(8); {
	case depth > 1 && k < 2:
		return tlist(anyType(r, depth-1))
	case depth > 1 && k < 4:
		t := api.Type{Kind: api.TRec}
		for _, name := range []string{"a", "b", "c"} {
			if r.Intn(2) == 0 {
				t.Names, t.Items = append(t.Names, name), append(t.Items, anyType(r, depth-1))
			}
		}
		return t
	}
	return ty(api.TBool + r.Intn(4))
}

// anyOf answers a value of a type.
func anyOf(r *rand.Rand, t api.Type) api.Value {
	v := api.Value{Kind: t.Kind, Names: t.Names}
	switch t.Kind {
	case api.TBool:
		v.N = int64(r.Intn(2))
	case api.TInt:
		v.N = []int64{0, 1, 2, -1, 5, most, least, r.Int63()}[r.Intn(8)]
	case api.TFloat:
		v.F = someFloats()[r.Intn(len(someFloats()))]
	case api.TStr:
		v.S = []string{"", "a", "\xff", rep("x", 150)}[r.Intn(4)]
	case api.TList:
		for range r.Intn(3) {
			v.Items = append(v.Items, anyOf(r, t.Items[0]))
		}
	}
	if t.Kind == api.TRec {
		for _, of := range t.Items {
			v.Items = append(v.Items, anyOf(r, of))
		}
	}
	return v
}

// P10.2: what has a type comes to a value of it, or to one of four errors.
func TestEvalIsSound(t *testing.T) {
	r := rand.New(rand.NewSource(3))
	came := map[api.Errno]int{}
	for range 3000 {
		var n named
		for i := range 8 {
			of := anyType(r, 3)
			if i < 4 {
				of = ty(api.TBool + i)
			}
			n.add(fmt.Sprint("v", i), anyOf(r, of))
			n.vars[i].Type = of
		}
		for range 20 {
			x := typedExpr(r, n.vars, anyType(r, 2), 1+r.Intn(7))
			of, wrong := types.Check(x, n.vars)
			if wrong != api.OK {
				continue
			}
			v, e := Eval(x, n.vars, n.values)
			came[e]++
			s, _ := parse.Text(x)
			switch e {
			case api.OK:
				if !value.Fits(v, of) {
					t.Fatalf("%s: %s isn't of its type", s, show(v))
				}
			case api.ErrOverflow, api.ErrDivide, api.ErrIndex, api.ErrRange:
			default:
				t.Fatalf("%s: error %d", s, e)
			}
		}
	}
	for _, e := range []api.Errno{api.OK, api.ErrOverflow, api.ErrDivide, api.ErrIndex, api.ErrRange} {
		if came[e] < 50 {
			t.Error("hardly ever came:", e, came)
		}
	}
}

// typedExpr answers an expression that most likely is of a type, of some so many within one another.
func typedExpr(r *rand.Rand, vars []api.Var, of api.Type, depth int) api.Expr {
	with := func(kind int, kids ...api.Type) api.Expr {
		x := api.Expr{Kind: kind}
		for _, kid := range kids {
			x.Kids = append(x.Kids, typedExpr(r, vars, kid, depth-1))
		}
		return x
	}
	k := r.Intn(7)
	switch {
	case depth <= 1 || k == 0:
		return leaf(r, vars, of)
	case k == 1:
		return with(api.EIf, ty(api.TBool), of, of)
	case k == 2:
		return with(api.EIndex, tlist(of), ty(api.TInt))
	case k == 3:
		x := with(api.EField, trec("a b", ty(api.TInt), of))
		x.S = "b"
		return x
	}
	return typedOver(r, with, of, k)
}

// typedOver goes by the operators that a type's kind has.
func typedOver(r *rand.Rand, with func(kind int, kids ...api.Type) api.Expr, of api.Type, k int) api.Expr {
	any := ty(api.TBool + r.Intn(4))
	switch of.Kind {
	case api.TBool:
		if k == 4 {
			ordered := ty(api.TInt + r.Intn(3))
			return with([]int{api.ELess, api.ELeq}[r.Intn(2)], ordered, ordered)
		}
		return []api.Expr{with(api.ENot, of), with(api.EAnd, of, of), with(api.EOr, of, of), with(api.EEq, any, any)}[r.Intn(4)]
	case api.TInt:
		if k == 4 {
			return []api.Expr{with(api.ENeg, of), with(api.ELen, ty(api.TStr)), with(api.ELen, tlist(any)), with(api.EInt, ty(api.TFloat))}[r.Intn(4)]
		}
		return with(api.EAdd+r.Intn(5), of, of)
	case api.TFloat:
		if k == 4 {
			return []api.Expr{with(api.ENeg, of), with(api.EFloat, ty(api.TInt))}[r.Intn(2)]
		}
		return with(api.EAdd+r.Intn(4), of, of)
	case api.TStr:
		if k == 4 {
			return with(api.EStr, any)
		}
		return with(api.EAdd, of, of)
	case api.TList:
		if k == 4 {
			return with(api.EAdd, of, of)
		}
		return with(api.EList, slices.Repeat(of.Items, r.Intn(3))...)
	}
	x := with(api.ERec, of.Items...)
	x.Names = of.Names
	return x
}

// leaf answers a variable of the type, or what stands for it.
func leaf(r *rand.Rand, vars []api.Var, of api.Type) api.Expr {
	var fitting []api.Expr
	for _, v := range vars {
		if types.Same(v.Type, of) {
			fitting = append(fitting, vari(v.Name))
		}
	}
	if len(fitting) > 0 && r.Intn(5) > 0 {
		return fitting[r.Intn(len(fitting))]
	}
	switch of.Kind {
	case api.TList:
		return expr("[]")
	case api.TRec:
		x := api.Expr{Kind: api.ERec, Names: of.Names}
		for _, item := range of.Items {
			x.Kids = append(x.Kids, leaf(r, vars, item))
		}
		return x
	}
	return expr(map[int][]string{api.TBool: {"true", "false"}, api.TInt: {"0", "2"}, api.TFloat: {"nan", "3p-1"}, api.TStr: {`""`, `"b"`}}[of.Kind][r.Intn(2)])
}

// lists answers where all the lists and texts of a value stand.
func lists(v api.Value) []uintptr {
	var all []uintptr
	if cap(v.Names) > 0 {
		all = append(all, uintptr(unsafe.Pointer(unsafe.SliceData(v.Names))))
	}
	if cap(v.Items) > 0 {
		all = append(all, uintptr(unsafe.Pointer(unsafe.SliceData(v.Items))))
	}
	for _, text := range append([]string{v.S}, v.Names...) {
		if text != "" {
			all = append(all, uintptr(unsafe.Pointer(unsafe.StringData(text))))
		}
	}
	for _, item := range v.Items {
		all = append(all, lists(item)...)
	}
	return all
}

// checkNew tells whether what is answered shares memory with what was handed in, or with itself.
func checkNew(t *testing.T, answer api.Value, given ...api.Value) {
	t.Helper()
	met := map[uintptr]bool{}
	for _, g := range given {
		for _, at := range lists(g) {
			met[at] = true
		}
	}
	for _, at := range lists(answer) {
		if met[at] {
			t.Fatalf("%s shares memory", show(answer))
		}
		met[at] = true
	}
}

// withRoom answers a value whose lists have spare room.
func withRoom(v api.Value) api.Value {
	v.Names = append(make([]string, 0, len(v.Names)+2), v.Names...)
	items := make([]api.Value, 0, len(v.Items)+2)
	for _, item := range v.Items {
		items = append(items, withRoom(item))
	}
	v.Items = items
	return v
}

// showRoom tells a value with its spare room laid open.
func showRoom(v api.Value) string {
	s := fmt.Sprintf("%d %d %x %q %q %d", v.Kind, v.N, math.Float64bits(v.F), v.S, v.Names[:cap(v.Names)], len(v.Items))
	for _, item := range v.Items[:cap(v.Items)] {
		s += " (" + showRoom(item) + ")"
	}
	return s
}

// heldIn answers the texts and lists of names within an expression, as values that hold them.
func heldIn(x api.Expr) []api.Value {
	all := []api.Value{x.V, {S: x.S, Names: x.Names}}
	for _, kid := range x.Kids {
		all = append(all, heldIn(kid)...)
	}
	return all
}

// scribble writes into all of an answer, its spare room too.
func scribble(v api.Value) {
	for i := range v.Names[:cap(v.Names)] {
		v.Names[:cap(v.Names)][i] = "scribbled"
	}
	for i := range v.Items[:cap(v.Items)] {
		scribble(v.Items[:cap(v.Items)][i])
		v.Items[:cap(v.Items)][i] = api.Value{Kind: 99}
	}
}

// Rules 5, 7, 7a: values are new memory, what is handed in stays, and the same is answered again.
func TestEvalIsNew(t *testing.T) {
	n, _ := someVars()
	for i, v := range n.values {
		n.values[i] = withRoom(v)
	}
	n.values = append(make([]api.Value, 0, len(n.values)+3), n.values...)
	told := func() string {
		s := fmt.Sprint(n.vars)
		for _, v := range n.values[:cap(n.values)] {
			s += showRoom(v)
		}
		return s
	}
	before, came := told(), 0
	r := rand.New(rand.NewSource(4))
	for range 10000 {
		x := anyExpr(r, n, 1+r.Intn(5))
		text, _ := parse.Text(x)
		v, e := Eval(x, n.vars, n.values)
		if e != api.OK {
			continue
		}
		came++
		given := append(heldIn(x), n.values...)
		checkNew(t, v, given...)
		again, _ := Eval(x, n.vars, n.values)
		checkNew(t, again, v)
		scribble(v)
		if third, _ := Eval(x, n.vars, n.values); show(third) != show(again) {
			t.Fatalf("%s: %s, then %s", text, show(again), show(third))
		}
		if after, _ := parse.Text(x); after != text {
			t.Fatalf("%s became %s", text, after)
		}
	}
	if told() != before || came < 2000 {
		t.Error("values became others, or hardly any came", came)
	}
	for _, text := range []string{"[v27,v27]", "{a:v27,b:v27,c:[v27]}", "v20+v20", "[v21]+[v21]+v23", "v27", "v17", "v27.a", "[v21][0]", "v1?v27:v0", "str(v17)", `v15+v17`, "v17+v15", "v19+v21", "v21+v19"} {
		v, e := Eval(expr(text), n.vars, n.values)
		if e != api.OK {
			t.Fatalf("%s: error %d", text, e)
		}
		checkNew(t, v, n.values...)
	}
	if told() != before {
		t.Error("values became others")
	}
}

// Rule 5, 7a: the same of what is constant, and of zeros.
func TestConstAndZeroAreNew(t *testing.T) {
	for _, text := range []string{`"abc"`, `{abc:"def"}`, `{abc:"def",g:{abc:1}}.g`, `["abc"]+["abc"]`, `[{abc:[]}][0]`, `str("abc")`, `"abc"+""`, `true?"abc":""`} {
		x := expr(text)
		v, is := Const(x)
		again, _ := Const(x)
		if !is {
			t.Fatal(text)
		}
		checkNew(t, v, append(heldIn(x), again)...)
	}
	inner := trec("abc d", ty(api.TInt), trec("e", ty(api.TStr)))
	of := trec("a b c", inner, inner, tlist(inner))
	given := []api.Value{{Names: of.Names}, {Names: inner.Names}, {Names: inner.Items[1].Names}}
	v := Zero(of)
	checkNew(t, v.Items[0], given...)
	if again := Zero(of); show(v) != show(again) {
		t.Error("another zero:", show(again))
	} else {
		checkNew(t, again, append(given, v)...)
	}
	scribble(v)
	if fmt.Sprint(of) != fmt.Sprint(trec("a b c", inner, inner, tlist(inner))) || inner.Names[0] != "abc" {
		t.Error("a type became another one")
	}
}

// Rule 4: nil and an empty list are one.
func TestNilIsEmpty(t *testing.T) {
	for _, kind := range []int{api.EList, api.ERec} {
		bare, filled := api.Expr{Kind: kind}, api.Expr{Kind: kind, V: api.Value{Names: []string{}, Items: []api.Value{}}, Names: []string{}, Kids: []api.Expr{}}
		a, ea := Eval(bare, nil, nil)
		b, eb := Eval(filled, []api.Var{}, []api.Value{})
		if show(a) != show(b) || ea != api.OK || eb != api.OK {
			t.Error("empty lists of the kind", kind)
		}
	}
	one := api.Value{Kind: api.VInt, N: 1, Names: []string{}, Items: []api.Value{}}
	check(t, expr("[x]==[1]"), of("x", one), yes(true), api.OK)
	check(t, api.Expr{Kind: api.EConst, V: one}, named{}, num(1), api.OK)
	if v := Zero(api.Type{Kind: api.TInt, Names: []string{}, Items: []api.Type{}}); show(v) != show(num(0)) {
		t.Error("the zero:", show(v))
	}
	if v := Zero(api.Type{Kind: api.TRec, Names: []string{}, Items: []api.Type{}}); show(v) != show(rec("")) {
		t.Error("the zero:", show(v))
	}
}
