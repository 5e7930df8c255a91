package value

import (
	"fmt"
	"math"
	"math/rand"
	"reflect"
	"regexp"
	"slices"
	"strings"
	"testing"

	"bascule/api"
)

const theNaN = 0x7FF8000000000000

var (
	minusZero = math.Copysign(0, -1)
	inf       = math.Inf(1)
	nan       = math.NaN()
	otherNaN  = math.Float64frombits(0xFFF0000000000123)
)

func truth(n int64) api.Value           { return api.Value{Kind: api.VBool, N: n} }
func num(n int64) api.Value             { return api.Value{Kind: api.VInt, N: n} }
func flo(f float64) api.Value           { return api.Value{Kind: api.VFloat, F: f} }
func str(s string) api.Value            { return api.Value{Kind: api.VStr, S: s} }
func list(items ...api.Value) api.Value { return api.Value{Kind: api.VList, Items: items} }

// rec takes its names with blanks between.
func rec(names string, items ...api.Value) api.Value {
	return api.Value{Kind: api.VRec, Names: strings.Fields(names), Items: items}
}

func typ(kind int) api.Type             { return api.Type{Kind: kind} }
func listOf(items ...api.Type) api.Type { return api.Type{Kind: api.TList, Items: items} }
func recOf(names string, items ...api.Type) api.Type {
	return api.Type{Kind: api.TRec, Names: strings.Fields(names), Items: items}
}

var (
	tBool  = typ(api.TBool)
	tInt   = typ(api.TInt)
	tFloat = typ(api.TFloat)
	tStr   = typ(api.TStr)
	tNone  = typ(api.TNone)
)

// manyNames answers n names that rise.
func manyNames(n int) []string {
	names := make([]string, n)
	for i := range names {
		names[i] = fmt.Sprintf("n%06d", i)
	}
	return names
}

func manyItems(n int, item api.Value) []api.Value { return slices.Repeat([]api.Value{item}, n) }

// nested answers a value of so many within one another: lists and records by turns, a string innermost.
func nested(depth int) api.Value {
	v := str("x")
	for i := 1; i < depth; i++ {
		if i%2 == 0 {
			v = rec("a", v)
		} else {
			v = list(v)
		}
	}
	return v
}

func nestedType(depth int) api.Type {
	t := tNone
	for i := 1; i < depth; i++ {
		if i%2 == 0 {
			t = recOf("a", t)
		} else {
			t = listOf(t)
		}
	}
	return t
}

// endless answers a list that has itself within itself.
func endless() api.Value {
	v := list(num(1), api.Value{})
	v.Items[1] = v
	return v
}

func endlessType() api.Type {
	t := listOf(api.Type{})
	t.Items[0] = t
	return t
}

// shared answers a list of 2^depth parts and more, which needs little room.
func shared(depth int) api.Value {
	v := num(1)
	for range depth {
		v = list(v, v)
	}
	return v
}

func sharedType(depth int) api.Type {
	t := tInt
	for range depth {
		t = recOf("a b", t, t)
	}
	return t
}

// P4.1: names of all lengths about the bounds, and of all bytes at each place.
func TestName(t *testing.T) {
	form := regexp.MustCompile(`\A[a-z][a-z0-9_]{0,29}\z`)
	check := func(s string) {
		t.Helper()
		if got := Name(s); got != form.MatchString(s) {
			t.Errorf("Name(%q): %v", s, got)
		}
	}
	for _, s := range []string{
		"", "a", "z", "a_", "a0", "z9", "_", "_a", "0", "9a", "A", "aB", "a b", " a", "a ", "a\n", "a\x00", "a-b", "a.b", "é", "aé", "a\u0301", "true", "nan",
		strings.Repeat("a", 29), strings.Repeat("a", 30), strings.Repeat("a", 31), "a" + strings.Repeat("_", 29), "a" + strings.Repeat("9", 30), strings.Repeat("a", 29) + "A", strings.Repeat("a", 1<<20),
	} {
		check(s)
	}
	for c := range 256 {
		one := string([]byte{byte(c)})
		for _, s := range []string{one, "a" + one, one + "a", "a" + one + "a", strings.Repeat("x", 29) + one} {
			check(s)
		}
	}
	if !Name("a") || !Name(strings.Repeat("q", 30)) || Name(strings.Repeat("q", 31)) || Name("") {
		t.Error("1, 30, 31 or 0 bytes")
	}
}

// choices are what fields may have, each alone; the first one is zero.
var (
	someN     = []int64{0, 1, 2, -1, math.MinInt64}
	someF     = []float64{0, minusZero, 1, nan, inf, math.SmallestNonzeroFloat64}
	someS     = []string{"", "x", "\x00", strings.Repeat("s", 200), strings.Repeat("s", 201)}
	someNames = [][]string{nil, {}, {"a"}, {"a", "b"}, {"b", "a"}, {"a", "a"}, {"A"}, {""}, {"a", "b", "c"}}
	someItems = [][]api.Value{nil, {}, {{Kind: api.VInt, N: 7}}, {{Kind: api.VBool, N: 1}, {Kind: api.VList}}, {{}}, {{Kind: api.VInt}, {Kind: api.VBool, N: 2}}}
	risingOf  = []int{0, 0, 1, 2, -1, -1, -1, -1, 3} // of someNames: how many, if they may be a record's
)

// rowHolds tells by the document's rows whether a value of these choices is right; Items from the fifth on have one that isn't.
func rowHolds(kind, n, f, s, names, items int) bool {
	noN, noF, noS, noNames, noItems := n == 0, f == 0, s == 0, names < 2, items < 2
	rightItems := items < 4
	switch kind {
	case api.VBool:
		return n < 2 && noF && noS && noNames && noItems
	case api.VInt:
		return noF && noS && noNames && noItems
	case api.VFloat:
		return noN && noS && noNames && noItems
	case api.VStr:
		return s < 4 && noN && noF && noNames && noItems
	case api.VList:
		return rightItems && noN && noF && noS && noNames
	case api.VRec:
		return rightItems && noN && noF && noS && risingOf[names] == len(someItems[items])
	}
	return false
}

// P4.1: every kind with every choice of fields.
func TestRightRows(t *testing.T) {
	for kind := -2; kind <= 9; kind++ {
		for n := range someN {
			for f := range someF {
				for s := range someS {
					for names := range someNames {
						for items := range someItems {
							v := api.Value{Kind: kind, N: someN[n], F: someF[f], S: someS[s], Names: someNames[names], Items: someItems[items]}
							if got := Right(v); got != rowHolds(kind, n, f, s, names, items) {
								t.Fatalf("Right(%+v): %v", v, got)
							}
						}
					}
				}
			}
		}
	}
	for _, kind := range []int{math.MinInt, math.MaxInt, 256 + api.VInt, 1<<32 + api.VInt} {
		if Right(api.Value{Kind: kind}) {
			t.Error("a kind that is none:", kind)
		}
	}
}

func TestRightPlain(t *testing.T) {
	long := strings.Repeat("n", 30)
	for _, v := range []api.Value{
		truth(0), truth(1), num(0), num(math.MinInt64), num(math.MaxInt64), flo(0), flo(minusZero), flo(nan), flo(otherNaN), flo(-inf), flo(0.1),
		str(""), str(strings.Repeat("\xff", 200)), str(strings.Repeat("é", 100)), list(), list(list(), rec("")), rec(""), rec("a", num(1)), rec("a b", list(), rec("")),
		rec("a a0 a_ aa b", num(1), num(2), num(3), num(4), num(5)), rec(long, num(1)), rec("a true", num(1), flo(nan)), list(num(1), flo(1), str("1")),
	} {
		if !Right(v) {
			t.Errorf("not right: %+v", v)
		}
	}
	for _, v := range []api.Value{
		{}, truth(2), truth(-1), str(strings.Repeat("é", 101)), list(api.Value{}), list(list(list(truth(3)))), rec("a b", num(1)), rec("a", num(1), num(2)), rec("", num(1)), rec("a"),
		rec("b a", num(1), num(2)), rec("a a", num(1), num(2)), rec("a c b", num(1), num(2), num(3)), rec("a_ a0", num(1), num(2)), rec("aa a", num(1), num(2)),
		rec("A", num(1)), rec("_a", num(1)), rec(long+"n", num(1)), rec("a b", num(1), list(rec("x y", num(1)))), rec("a", flo(1), flo(2)),
		{Kind: api.VRec, Names: []string{""}, Items: []api.Value{num(1)}}, {Kind: api.VRec, Names: []string{"a b"}, Items: []api.Value{num(1)}},
		{Kind: api.VList, Names: []string{"a"}, Items: []api.Value{num(1)}},
	} {
		if Right(v) {
			t.Errorf("right: %+v", v)
		}
	}
}

// shapes answers values of n parts (6 at least) that are right but for how many these are.
func shapes(n int) map[string]api.Value {
	half := n / 2
	return map[string]api.Value{
		"a list":                 list(manyItems(n-1, num(3))...),
		"a record":               {Kind: api.VRec, Names: manyNames(n - 1), Items: manyItems(n-1, str("x"))},
		"a list in a record":     rec("a", list(manyItems(n-2, flo(nan))...)),
		"two lists":              list(list(manyItems(half, truth(1))...), list(manyItems(n-3-half, truth(0))...)),
		"a list ahead of others": list(append([]api.Value{list(manyItems(half, num(1))...)}, manyItems(n-2-half, list())...)...),
		"a list behind others":   list(append(manyItems(n-2-half, rec("")), list(manyItems(half, num(1))...))...),
	}
}

// P4.1: 200 parts, and 201.
func TestRightParts(t *testing.T) {
	for _, n := range []int{6, 7, 199, 200, 201, 202, 400, 499, 500, 501, 502, 100000} {
		for name, v := range shapes(n) {
			if got := Right(v); got != (n <= 200) {
				t.Errorf("%s of %d parts: %v", name, n, got)
			}
			if got := Parts(v); got != min(n, 500) {
				t.Errorf("%s of %d parts has %d", name, n, got)
			}
		}
	}
}

// P4.1: 12 within one another, and 13; beside others, too.
func TestRightDepth(t *testing.T) {
	for depth := 1; depth <= 70; depth++ {
		v := nested(depth)
		if got := Right(v); got != (depth <= 12) {
			t.Errorf("%d within one another: %v", depth, got)
		}
		if got := Parts(v); got != depth {
			t.Errorf("%d within one another are %d parts", depth, got)
		}
	}
	for _, side := range []api.Value{num(1), list(), nested(11)} {
		for _, within := range []api.Value{list(side, nested(11)), list(nested(11), side), rec("a b c", side, nested(11), side)} {
			if !Right(within) || Right(list(within)) {
				t.Errorf("12 and 13 within one another, beside %+v", side)
			}
		}
	}
	empty := list()
	for range 11 {
		empty = list(empty)
	}
	if !Right(empty) || Right(list(empty)) {
		t.Error("empty lists within one another")
	}
}

// P4.1: parts of any value are counted, whatever its kind.
func TestParts(t *testing.T) {
	for _, c := range []struct {
		v    api.Value
		want int
	}{
		{api.Value{}, 1}, {num(5), 1}, {list(), 1}, {rec(""), 1}, {list(num(1)), 2}, {rec("a b", num(1), list(str("x"))), 4}, {list(list(), list(), list(list())), 5},
		{api.Value{Kind: api.VInt, Items: []api.Value{num(1), list(num(2))}}, 4}, {api.Value{Kind: -7, Items: manyItems(3, api.Value{Kind: 99})}, 4},
		{api.Value{Kind: api.VRec, Names: manyNames(20), Items: manyItems(2, num(1))}, 3}, {api.Value{Kind: api.VRec, Names: manyNames(20)}, 1}, {rec("", num(1)), 2},
		{list(manyItems(498, num(1))...), 499}, {list(manyItems(499, num(1))...), 500}, {list(manyItems(500, num(1))...), 500}, {list(manyItems(200, nested(2))...), 401}, {list(manyItems(300, nested(2))...), 500},
		{nested(499), 499}, {nested(500), 500}, {nested(501), 500}, {nested(1 << 16), 500}, {shared(7), 255}, {shared(8), 500}, {shared(60), 500}, {endless(), 500},
	} {
		if got := Parts(c.v); got != c.want {
			t.Errorf("Parts: %d, not %d", got, c.want)
		}
	}
}

// P4.1: every kind of type with every choice of names and items.
func TestTypeRightRows(t *testing.T) {
	items := [][]api.Type{nil, {}, {tInt}, {tStr, listOf(tNone)}, {{}}, {listOf()}, {tInt, {Kind: 8}}, {tBool, recOf("a")}}
	rightItems := func(i int) bool { return i < 4 }
	for kind := -2; kind <= 10; kind++ {
		for n, names := range someNames {
			for i := range items {
				var want bool
				switch kind {
				case api.TBool, api.TInt, api.TFloat, api.TStr, api.TNone:
					want = n < 2 && i < 2
				case api.TList:
					want = n < 2 && len(items[i]) == 1 && rightItems(i)
				case api.TRec:
					want = rightItems(i) && risingOf[n] == len(items[i])
				}
				ty := api.Type{Kind: kind, Names: names, Items: items[i]}
				if got := TypeRight(ty); got != want {
					t.Errorf("TypeRight(%+v): %v", ty, got)
				}
			}
		}
	}
	for _, kind := range []int{math.MinInt, math.MaxInt, 256 + api.TInt, 1<<32 + api.TInt} {
		if TypeRight(typ(kind)) {
			t.Error("a kind that is none:", kind)
		}
	}
}

// P4.1: 200 parts and 201, 12 within one another and 13.
func TestTypeRightLimits(t *testing.T) {
	for _, n := range []int{4, 199, 200, 201, 202, 100000} {
		for _, ty := range []api.Type{
			{Kind: api.TRec, Names: manyNames(n - 1), Items: slices.Repeat([]api.Type{tInt}, n-1)},
			listOf(api.Type{Kind: api.TRec, Names: manyNames(n - 2), Items: slices.Repeat([]api.Type{tNone}, n-2)}),
			recOf("a b", api.Type{Kind: api.TRec, Names: manyNames(n - 4), Items: slices.Repeat([]api.Type{tStr}, n-4)}, listOf(tBool))} {
			if got := TypeRight(ty); got != (n <= 200) {
				t.Errorf("%d parts: %v", n, got)
			}
		}
	}
	for depth := 1; depth <= 30; depth++ {
		if got := TypeRight(nestedType(depth)); got != (depth <= 12) {
			t.Errorf("%d within one another: %v", depth, got)
		}
		if got := TypeRight(recOf("a b c", tInt, nestedType(depth), tInt)); got != (depth < 12) {
			t.Errorf("%d within a record: %v", depth, got)
		}
	}
	for _, ty := range []api.Type{recOf(strings.Repeat("n", 31), tInt), recOf("b a", tInt, tInt), recOf("a a", tInt, tInt), listOf(), listOf(tInt, tInt), listOf(listOf(api.Type{})), recOf("a", typ(0))} {
		if TypeRight(ty) {
			t.Errorf("right: %+v", ty)
		}
	}
	for _, ty := range []api.Type{recOf(strings.Repeat("n", 30), tInt), recOf(""), listOf(recOf("")), listOf(tNone), recOf("a b", tNone, listOf(tNone))} {
		if !TypeRight(ty) {
			t.Errorf("not right: %+v", ty)
		}
	}
}

// P4.1: values against types: each value is of those that are named beside it, and of no others.
func TestFits(t *testing.T) {
	types := map[string]api.Type{
		"bool": tBool, "int": tInt, "float": tFloat, "str": tStr, "none": tNone,
		"[none]": listOf(tNone), "[bool]": listOf(tBool), "[int]": listOf(tInt), "[float]": listOf(tFloat), "[str]": listOf(tStr),
		"[[none]]": listOf(listOf(tNone)), "[[int]]": listOf(listOf(tInt)), "[{}]": listOf(recOf("")), "[{a:int}]": listOf(recOf("a", tInt)),
		"{}": recOf(""), "{a:int}": recOf("a", tInt), "{b:int}": recOf("b", tInt), "{a:str}": recOf("a", tStr), "{a:none}": recOf("a", tNone), "{a:[none]}": recOf("a", listOf(tNone)), "{a:[int]}": recOf("a", listOf(tInt)),
		"{a:int,b:str}": recOf("a b", tInt, tStr), "{a:str,b:int}": recOf("a b", tStr, tInt), "{a:int,c:str}": recOf("a c", tInt, tStr),
	}
	lists := "[none] [bool] [int] [float] [str] [[none]] [[int]] [{}] [{a:int}]"
	for _, c := range []struct {
		v    api.Value
		fits string
	}{
		{truth(0), "bool"}, {truth(1), "bool"}, {num(0), "int"}, {num(-1), "int"}, {flo(0), "float"}, {flo(nan), "float"}, {flo(otherNaN), "float"}, {str(""), "str"}, {str("int"), "str"},
		{list(), lists}, {list(truth(1)), "[bool]"}, {list(num(1)), "[int]"}, {list(num(1), num(2)), "[int]"}, {list(flo(minusZero)), "[float]"}, {list(str("")), "[str]"},
		{list(num(1), str("x")), ""}, {list(str("x"), num(1)), ""}, {list(num(1), flo(1)), ""}, {list(num(1), num(1), truth(1)), ""},
		{list(list()), "[[none]] [[int]]"}, {list(list(), list(num(1))), "[[int]]"}, {list(list(num(1)), list()), "[[int]]"}, {list(list(str("x"))), ""}, {list(list(), num(1)), ""},
		{rec(""), "{}"}, {list(rec("")), "[{}]"}, {list(rec("a", num(1)), rec("a", num(2))), "[{a:int}]"}, {list(rec("a", num(1)), rec("b", num(2))), ""}, {list(rec(""), rec("a", num(1))), ""},
		{rec("a", num(1)), "{a:int}"}, {rec("b", num(1)), "{b:int}"}, {rec("a", str("1")), "{a:str}"}, {rec("a", list()), "{a:[none]} {a:[int]}"}, {rec("a", list(num(1))), "{a:[int]}"}, {rec("a", flo(1)), ""},
		{rec("a b", num(1), str("2")), "{a:int,b:str}"}, {rec("a b", str("1"), num(2)), "{a:str,b:int}"}, {rec("a c", num(1), str("2")), "{a:int,c:str}"}, {rec("a b", num(1), num(2)), ""}, {rec("a b c", num(1), str("2"), num(3)), ""},
		{api.Value{}, ""}, {api.Value{Kind: 7}, ""}, {truth(2), ""}, {api.Value{Kind: api.VInt, S: "x"}, ""}, {api.Value{Kind: api.VInt, F: minusZero}, ""}, {api.Value{Kind: api.VList, N: 1}, ""}, {list(truth(2)), ""}, {rec("a"), ""}, {rec("a b", num(1)), ""},
	} {
		for name, ty := range types {
			if got := Fits(c.v, ty); got != slices.Contains(strings.Fields(c.fits), name) {
				t.Errorf("%+v is of %s: %v", c.v, name, got)
			}
		}
	}
}

// P4.1: what isn't right fits nothing, and nothing fits it: on either side, beyond the limits too.
func TestFitsNeedsRight(t *testing.T) {
	full := api.Type{Kind: api.TRec, Names: manyNames(199), Items: slices.Repeat([]api.Type{tInt}, 199)}
	over := api.Type{Kind: api.TRec, Names: manyNames(200), Items: slices.Repeat([]api.Type{tInt}, 200)}
	deep, deepType := num(1), tInt
	for range 11 {
		deep, deepType = list(deep), listOf(deepType)
	}
	for _, c := range []struct {
		name string
		v    api.Value
		t    api.Type
		want bool
	}{
		{"200 items of a list", list(manyItems(200, num(1))...), listOf(tInt), false},
		{"199 items of a list", list(manyItems(199, num(1))...), listOf(tInt), true},
		{"200 parts of a record", api.Value{Kind: api.VRec, Names: full.Names, Items: manyItems(199, num(1))}, full, true},
		{"201 parts of a record", api.Value{Kind: api.VRec, Names: over.Names, Items: manyItems(200, num(1))}, over, false},
		{"an empty list, of a type of 202", list(), listOf(over), false},
		{"an empty list, of a type of 201", list(), listOf(full), false},
		{"12 within one another", deep, deepType, true},
		{"13 within one another", list(deep), listOf(deepType), false},
		{"an empty list, of 13 within one another", list(), listOf(deepType), false},
		{"an empty list, of what is none", list(), listOf(api.Type{}), false},
		{"an empty list, of a list of none", list(), listOf(), false},
		{"an empty list, of a list of two", list(), listOf(tInt, tInt), false},
		{"an empty list, of names that don't rise", list(), listOf(recOf("b a", tInt, tInt)), false},
		{"a number, of a type with items", num(1), api.Type{Kind: api.TInt, Items: []api.Type{tInt}}, false},
		{"a number, of a type with names", num(1), api.Type{Kind: api.TInt, Names: []string{"a"}}, false},
		{"a long string", str(strings.Repeat("x", 201)), tStr, false},
		{"a string", str(strings.Repeat("x", 200)), tStr, true},
		{"both with names that don't rise", rec("b a", num(1), num(2)), recOf("b a", tInt, tInt), false},
		{"both with names that are none", rec("B", num(1)), recOf("B", tInt), false},
		{"both of kind 0", api.Value{}, api.Type{}, false},
		{"both of kind 7", api.Value{Kind: 7}, tNone, false},
		{"both of kind 8", api.Value{Kind: 8}, typ(8), false},
		{"names alone", rec("a b"), recOf("a b"), false},
		{"without end", endless(), endlessType(), false},
		{"an empty list, of a type without end", list(), endlessType(), false},
		{"shared", shared(60), sharedType(60), false},
	} {
		if got := Fits(c.v, c.t); got != c.want {
			t.Errorf("%s: %v", c.name, got)
		}
	}
}

// anyRight answers a right value, small, of a random type's shape.
func anyRight(r *rand.Rand, depth int) api.Value {
	kinds := 6
	if depth == 0 {
		kinds = 4
	}
	switch 1 + r.Intn(kinds) {
	case api.VBool:
		return truth(int64(r.Intn(2)))
	case api.VInt:
		return num([]int64{0, 1, -1, 12, math.MaxInt64, math.MinInt64, int64(r.Intn(5))}[r.Intn(7)])
	case api.VFloat:
		return flo([]float64{0, minusZero, 1, -2.5, inf, -inf, nan, otherNaN, 12}[r.Intn(9)])
	case api.VStr:
		return str([]string{"", "a", "b", "ab", "\"", "\\", "é", "\xff"}[r.Intn(8)])
	case api.VList:
		v := list()
		for range r.Intn(4) {
			v.Items = append(v.Items, anyRight(r, depth-1))
		}
		return v
	}
	v := rec("")
	for _, name := range []string{"a", "aa", "b", "c_1"} {
		if r.Intn(2) == 0 {
			v.Names = append(v.Names, name)
			v.Items = append(v.Items, anyRight(r, depth-1))
		}
	}
	return v
}

// typeOf answers a type that a right value fits, if it has one: lists are to have Items of one type.
func typeOf(v api.Value) (api.Type, bool) {
	t := api.Type{Kind: v.Kind, Names: v.Names}
	for _, item := range v.Items {
		inner, ok := typeOf(item)
		if !ok {
			return t, false
		}
		t.Items = append(t.Items, inner)
	}
	if v.Kind == api.VList {
		for _, inner := range t.Items {
			if !reflect.DeepEqual(inner, t.Items[0]) {
				return t, false
			}
		}
		if len(t.Items) == 0 {
			t.Items = []api.Type{tNone}
		}
		t.Items = t.Items[:1]
	}
	return t, true
}

// P4.1: a value fits its own type; any two fit one another's as often as their types are the same, but for empty lists.
func TestFitsMany(t *testing.T) {
	r := rand.New(rand.NewSource(1))
	for range 5000 {
		a, b := anyRight(r, 3), anyRight(r, 3)
		if !Right(a) {
			t.Fatalf("not right: %+v", a)
		}
		ta, okA := typeOf(a)
		tb, okB := typeOf(b)
		if okA && !Fits(a, ta) {
			t.Fatalf("%+v isn't of %+v", a, ta)
		}
		if okA && okB && !hasEmptyList(a) && !hasEmptyList(b) && Fits(a, tb) != reflect.DeepEqual(ta, tb) {
			t.Fatalf("%+v of %+v: %v", a, tb, Fits(a, tb))
		}
	}
}

func hasEmptyList(v api.Value) bool {
	return v.Kind == api.VList && len(v.Items) == 0 || slices.ContainsFunc(v.Items, hasEmptyList)
}

// sameExactly holds two values against each other field by field, all floats by their bits; nil and an empty list are one.
func sameExactly(a, b api.Value) bool {
	return a.Kind == b.Kind && a.N == b.N && a.S == b.S && math.Float64bits(a.F) == math.Float64bits(b.F) &&
		slices.Equal(a.Names, b.Names) && slices.EqualFunc(a.Items, b.Items, sameExactly)
}

// P4.2: each float becomes canonical, wherever it stands, and all else stays.
func TestCanon(t *testing.T) {
	canonical := math.Float64frombits(theNaN)
	for _, c := range []struct{ v, want api.Value }{
		{flo(otherNaN), flo(canonical)}, {flo(math.Float64frombits(theNaN + 1)), flo(canonical)}, {flo(minusZero), flo(minusZero)}, {flo(0), flo(0)}, {flo(-inf), flo(-inf)}, {flo(0.1), flo(0.1)},
		{truth(1), truth(1)}, {num(-5), num(-5)}, {str("a\xff"), str("a\xff")}, {list(), list()}, {rec(""), rec("")}, {api.Value{}, api.Value{}},
		{list(num(1), flo(otherNaN), list(flo(otherNaN))), list(num(1), flo(canonical), list(flo(canonical)))},
		{rec("a b", rec("c", flo(otherNaN)), flo(minusZero)), rec("a b", rec("c", flo(canonical)), flo(minusZero))},
		{api.Value{Kind: api.VInt, N: 3, F: otherNaN}, api.Value{Kind: api.VInt, N: 3, F: canonical}},
		{
			api.Value{Kind: -4, N: 1, F: otherNaN, S: strings.Repeat("s", 300), Names: []string{"b", "", "a"}, Items: []api.Value{flo(otherNaN), {Kind: 99, F: otherNaN}}},
			api.Value{Kind: -4, N: 1, F: canonical, S: strings.Repeat("s", 300), Names: []string{"b", "", "a"}, Items: []api.Value{flo(canonical), {Kind: 99, F: canonical}}},
		},
		{list(manyItems(300, flo(otherNaN))...), list(manyItems(300, flo(canonical))...)},
	} {
		got := Canon(c.v)
		if !sameExactly(got, c.want) || !sameExactly(Canon(got), c.want) {
			t.Errorf("Canon of %+v: %+v", c.v, got)
		}
	}
}

// P4.2: Canon answers new memory, no two lists of it in common.
func TestCanonIsNew(t *testing.T) {
	names := append(make([]string, 0, 9), "a", "b")
	items := append(make([]api.Value, 0, 9), num(1), flo(otherNaN))
	one := api.Value{Kind: api.VRec, Names: names, Items: items}
	given := list(one, one)
	got := Canon(given)
	for _, v := range got.Items {
		v.Names[0], v.Items[0] = "z", num(9)
		_, _ = append(v.Names, "q"), append(v.Items, num(8))
		break
	}
	if !sameExactly(given, list(one, one)) || names[0] != "a" || items[0].N != 1 || math.Float64bits(items[1].F) != math.Float64bits(otherNaN) {
		t.Error("what was handed in is another one now")
	}
	if names[:3][2] != "" || items[:3][2].Kind != 0 {
		t.Error("its spare room was written to")
	}
	if got.Items[1].Names[0] != "a" || got.Items[1].Items[0].N != 1 {
		t.Error("two lists of the answer are one")
	}
	names[1], items[1] = "y", num(7)
	if got.Items[1].Names[1] != "b" || got.Items[1].Items[1].Kind != api.VFloat {
		t.Error("the answer hangs on what was handed in")
	}
	given.Items[0] = num(0)
	if got.Items[0].Kind != api.VRec {
		t.Error("the answer's Items are those that were handed in")
	}
	if empty := Canon(api.Value{Kind: api.VRec, Names: names[:0], Items: items[:0]}); cap(empty.Names) > 0 || cap(empty.Items) > 0 {
		t.Error("an empty list with the room of what was handed in")
	}
}

// risingRow answers values in their order, each place ahead of the next one; all at one place are the same.
func risingRow() [][]api.Value {
	kind := func(k int, n int64, s string, names string, items ...api.Value) api.Value {
		return api.Value{Kind: k, N: n, S: s, Names: strings.Fields(names), Items: items}
	}
	var row [][]api.Value
	add := func(v ...api.Value) { row = append(row, v) }
	none := func(k int) { // of a kind that is none: N, S, Names, Items
		add(kind(k, math.MinInt64, "z", "z", num(9)))
		add(kind(k, -1, "z", "z", num(9)))
		add(kind(k, 0, "", ""), api.Value{Kind: k, F: 1}, api.Value{Kind: k, F: nan}, api.Value{Kind: k, F: minusZero, Names: []string{}, Items: []api.Value{}})
		add(kind(k, 0, "", "", num(1)))
		add(kind(k, 0, "", "", num(1), num(0)))
		add(kind(k, 0, "", "", num(2)))
		add(kind(k, 0, "", "a"))
		add(kind(k, 0, "", "a", flo(1)))
		add(kind(k, 0, "", "a a"))
		add(kind(k, 0, "", "b"))
		add(kind(k, 0, "a", ""), api.Value{Kind: k, S: "a", F: inf})
		add(kind(k, 0, "ab", ""))
		add(kind(k, 0, "b", ""))
		add(kind(k, 1, "", ""))
		add(kind(k, math.MaxInt64, "", ""))
	}
	none(math.MinInt)
	none(-1)
	none(0)
	add(truth(-1))
	add(truth(0), api.Value{Kind: api.VBool, F: nan, S: "z", Names: []string{"q"}, Items: []api.Value{num(4)}})
	add(truth(1))
	add(truth(2))
	add(num(math.MinInt64))
	add(num(-1), api.Value{Kind: api.VInt, N: -1, F: 3, S: "a", Names: []string{"a"}, Items: []api.Value{{}}})
	add(num(0), api.Value{Kind: api.VInt, F: nan}, api.Value{Kind: api.VInt, F: minusZero, S: "\xff"})
	add(num(1))
	add(num(math.MaxInt64))
	add(flo(-inf))
	add(flo(-math.MaxFloat64))
	add(flo(-1), api.Value{Kind: api.VFloat, F: -1, N: 7})
	add(flo(-math.SmallestNonzeroFloat64))
	add(flo(minusZero), api.Value{Kind: api.VFloat, F: minusZero, S: "s", Names: []string{"x"}, Items: []api.Value{{}}})
	add(flo(0))
	add(flo(math.SmallestNonzeroFloat64))
	add(flo(1))
	add(flo(inf))
	add(flo(nan), flo(otherNaN), flo(math.Float64frombits(theNaN)), api.Value{Kind: api.VFloat, F: nan, N: -7})
	add(str(""), api.Value{Kind: api.VStr, N: 1, F: 1, Names: []string{"a"}, Items: []api.Value{num(1)}})
	add(str("\x00"))
	add(str("A"))
	add(str("a"), api.Value{Kind: api.VStr, S: "a", N: -1, F: nan})
	add(str("a\x00"))
	add(str("aa"))
	add(str("b"))
	add(str("é"))
	add(str("\xff"))
	add(list(), api.Value{Kind: api.VList, Items: []api.Value{}}, api.Value{Kind: api.VList, N: 5, F: nan, S: "s", Names: []string{"a"}})
	add(list(api.Value{Kind: -3}))
	add(list(truth(0)))
	add(list(num(1)))
	add(list(num(1), truth(0)))
	add(list(num(1), num(0)))
	add(list(num(1), num(0), num(0)))
	add(list(num(1), flo(minusZero)))
	add(list(num(1), flo(0)))
	add(list(num(1), flo(nan)), list(num(1), flo(otherNaN)))
	add(list(num(2)))
	add(list(flo(minusZero)))
	add(list(flo(0)))
	add(list(flo(nan)), list(flo(otherNaN)), api.Value{Kind: api.VList, Names: []string{"b"}, Items: []api.Value{flo(nan)}})
	add(list(str("z")))
	add(list(list()))
	add(list(list(), num(0)))
	add(list(list(list(num(1)))))
	add(list(list(list(num(2)))))
	add(list(rec("")))
	add(list(api.Value{Kind: 7}))
	add(rec(""), api.Value{Kind: api.VRec, N: 1, F: 1, S: "x"}, api.Value{Kind: api.VRec, Names: []string{}, Items: []api.Value{}})
	add(rec("", num(1)))
	add(rec("", num(9), num(9)))
	add(rec("", num(10)))
	add(rec("a"))
	add(rec("a", num(1)), api.Value{Kind: api.VRec, N: -1, Names: []string{"a"}, Items: []api.Value{num(1)}})
	add(rec("a", num(2)))
	add(rec("a", num(2), num(1)))
	add(rec("a", flo(minusZero)))
	add(rec("a", flo(0)))
	add(rec("a", flo(nan)), rec("a", flo(otherNaN)))
	add(rec("a a", num(0), num(0)))
	add(rec("a b", num(0), num(0)))
	add(rec("a b", num(0), num(1)))
	add(rec("a b", num(1), num(0)))
	add(rec("a b c", num(0), num(0), num(0)))
	add(rec("a c", num(0), num(0)))
	add(rec("ab", num(0)))
	add(rec("b", truth(0)))
	add(rec("b a", truth(0), num(0)))
	none(7)
	none(8)
	none(math.MaxInt)
	return row
}

// P4.2, P4.4: any two of the row, Order and Same.
func TestOrderRow(t *testing.T) {
	row := risingRow()
	for i, these := range row {
		for j, those := range row {
			want := min(1, max(-1, i-j))
			for _, a := range these {
				for _, b := range those {
					if got := Order(a, b); got != want {
						t.Errorf("Order(%+v, %+v): %d, not %d", a, b, got, want)
					}
					if got := Same(a, b); got != (i == j) {
						t.Errorf("Same(%+v, %+v): %v", a, b, got)
					}
				}
			}
		}
	}
}

// P4.4: the order is total, and 0 just where they are the same; over a third, too.
func TestOrderIsTotal(t *testing.T) {
	r := rand.New(rand.NewSource(2))
	var all []api.Value
	for range 120 {
		all = append(all, anyValue(r, 3))
	}
	for _, a := range all {
		if Order(a, a) != 0 || !Same(a, a) || !Same(a, Canon(a)) {
			t.Fatalf("%+v isn't the same as itself", a)
		}
		for _, b := range all {
			ab := Order(a, b)
			if ab < -1 || ab > 1 || ab != -Order(b, a) || (ab == 0) != Same(a, b) {
				t.Fatalf("Order(%+v, %+v): %d", a, b, ab)
			}
			for _, c := range all {
				if ab <= 0 && Order(b, c) <= 0 && Order(a, c) > max(-1, ab+Order(b, c)) {
					t.Fatalf("over a third: %+v, %+v, %+v", a, b, c)
				}
			}
		}
	}
}

// anyValue answers any value, mostly not right: all fields of all kinds may be set.
func anyValue(r *rand.Rand, depth int) api.Value {
	v := api.Value{Kind: r.Intn(9) - 1}
	if r.Intn(2) == 0 {
		v = anyRight(r, depth)
	}
	if r.Intn(2) == 0 {
		v.N = int64(r.Intn(3))
	}
	if r.Intn(2) == 0 {
		v.F = []float64{0, minusZero, 1, nan, otherNaN}[r.Intn(5)]
	}
	if r.Intn(3) == 0 {
		v.S = []string{"", "a", "b"}[r.Intn(3)]
	}
	if r.Intn(3) == 0 {
		v.Names = someNames[r.Intn(len(someNames))]
	}
	if r.Intn(3) == 0 && depth > 0 {
		v.Items = nil
		for range r.Intn(3) {
			v.Items = append(v.Items, anyValue(r, depth-1))
		}
	}
	return v
}

// equalRef tells by the words whether two values are equal, or the same: same says which. Fields that don't count for a kind aren't looked at.
func equalRef(a, b api.Value, same bool) bool {
	if a.Kind != b.Kind || len(a.Items) != len(b.Items) && a.Kind != api.VBool && a.Kind != api.VInt && a.Kind != api.VFloat && a.Kind != api.VStr {
		return false
	}
	if a.Kind == api.VFloat {
		if same {
			return a.F != a.F && b.F != b.F || math.Float64bits(a.F) == math.Float64bits(b.F)
		}
		return a.F == b.F
	}
	if a.Kind >= api.VBool && a.Kind <= api.VStr {
		return a.Kind == api.VStr && a.S == b.S || a.Kind != api.VStr && a.N == b.N
	}
	if (a.Kind < api.VBool || a.Kind > api.VRec) && (a.N != b.N || a.S != b.S) {
		return false
	}
	if a.Kind != api.VList && fmt.Sprintf("%q", a.Names) != fmt.Sprintf("%q", b.Names) {
		return false
	}
	for i := range a.Items {
		if !equalRef(a.Items[i], b.Items[i], same) {
			return false
		}
	}
	return true
}

func hasFloat(v api.Value, is func(f float64) bool) bool {
	return is(v.F) || slices.ContainsFunc(v.Items, func(item api.Value) bool { return hasFloat(item, is) })
}

// alter answers a value in which the floats of one in three parts are another one.
func alter(r *rand.Rand, v api.Value) api.Value {
	w := Canon(v)
	if r.Intn(3) == 0 {
		w.F = []float64{0, minusZero, 1, nan, otherNaN}[r.Intn(5)]
	}
	for i, item := range w.Items {
		w.Items[i] = alter(r, item)
	}
	return w
}

// P4.2, P4.4: any two values, Same and Equal.
func TestSameAndEqualOfMany(t *testing.T) {
	r := rand.New(rand.NewSource(3))
	same, equal := 0, 0
	for range 40000 {
		a := anyValue(r, 3)
		b := alter(r, a)
		if r.Intn(4) == 0 {
			b = anyValue(r, 3)
		}
		if got := Same(a, b); got != equalRef(a, b, true) {
			t.Fatalf("Same(%+v, %+v): %v", a, b, got)
		}
		if got := Equal(a, b); got != equalRef(a, b, false) {
			t.Fatalf("Equal(%+v, %+v): %v", a, b, got)
		}
		edge := func(f float64) bool { return f != f || f == 0 && math.Signbit(f) }
		if Equal(a, b) && !Same(a, b) && !hasFloat(a, edge) && !hasFloat(b, edge) {
			t.Fatalf("equal, without edges, and not the same: %+v, %+v", a, b)
		}
		if Same(a, b) && !Equal(a, b) && !hasFloat(a, func(f float64) bool { return f != f }) {
			t.Fatalf("the same, without NaN, and not equal: %+v, %+v", a, b)
		}
		if Same(a, b) {
			same++
		}
		if Equal(a, b) {
			equal++
		}
	}
	if same < 1000 || equal < 1000 {
		t.Error("too few of them are the same, or equal:", same, equal)
	}
}

// P4.2: the edges of floats, alone and within lists, records and kinds that are none.
func TestEdgesOfFloats(t *testing.T) {
	for _, within := range []func(f float64) api.Value{
		flo,
		func(f float64) api.Value { return list(flo(f)) },
		func(f float64) api.Value { return list(num(1), list(str("x"), flo(f)), num(2)) },
		func(f float64) api.Value { return rec("a b", num(1), flo(f)) },
		func(f float64) api.Value { return rec("a", list(rec("b", flo(f)))) },
		func(f float64) api.Value { return api.Value{Kind: 9, Items: []api.Value{flo(f)}} },
	} {
		for _, c := range []struct {
			a, b        float64
			same, equal bool
			order       int
		}{
			{nan, nan, true, false, 0}, {nan, otherNaN, true, false, 0}, {0, minusZero, false, true, 1}, {minusZero, 0, false, true, -1}, {0, 0, true, true, 0}, {minusZero, minusZero, true, true, 0},
			{1, 1, true, true, 0}, {1, nan, false, false, -1}, {nan, inf, false, false, 1}, {otherNaN, -inf, false, false, 1}, {inf, inf, true, true, 0}, {-inf, inf, false, false, -1}, {0.1, 0.2, false, false, -1},
		} {
			a, b := within(c.a), within(c.b)
			if Same(a, b) != c.same || Equal(a, b) != c.equal || Order(a, b) != c.order {
				t.Errorf("%+v, %+v: %v, %v, %d", a, b, Same(a, b), Equal(a, b), Order(a, b))
			}
		}
	}
	for _, field := range []int{api.VBool, api.VInt, api.VStr, api.VList, api.VRec, 0, 7} {
		a, b := api.Value{Kind: field, F: nan}, api.Value{Kind: field, F: 1}
		if !Same(a, b) || !Equal(a, b) || !Equal(a, a) || Order(a, b) != 0 {
			t.Error("F counts of the kind", field)
		}
	}
}

// P4.2: kinds are apart, though their numbers are not; lists of different lengths, too.
func TestNotEqual(t *testing.T) {
	all := []api.Value{
		truth(1), num(1), flo(1), str("1"), str(""), list(), rec(""), list(num(1)), list(flo(1)), list(num(1), num(1)), list(list(num(1))), rec("a", num(1)), rec("b", num(1)), rec("a", flo(1)), rec("a b", num(1), num(1)),
		{}, {Kind: 7}, {Kind: -1}, {Kind: 7, N: 1}, {Kind: 7, S: "1"}, {Kind: 7, Names: []string{"a"}}, {Kind: 7, Items: []api.Value{num(1)}},
	}
	for i, a := range all {
		for j, b := range all {
			if Equal(a, b) != (i == j) || Same(a, b) != (i == j) || (Order(a, b) == 0) != (i == j) {
				t.Errorf("%+v, %+v: %v, %v, %d", a, b, Equal(a, b), Same(a, b), Order(a, b))
			}
		}
	}
	if Order(num(2), flo(1)) != -1 {
		t.Error("a number and a float")
	}
}

// P4.3: the texts of all kinds.
func TestText(t *testing.T) {
	for _, c := range []struct {
		v    api.Value
		want string
	}{
		{truth(1), "true"}, {truth(0), "false"},
		{num(0), "0"}, {num(7), "7"}, {num(-7), "-7"}, {num(math.MaxInt64), "9223372036854775807"}, {num(math.MinInt64), "-9223372036854775808"},
		{flo(12), "3p2"}, {flo(-2.5), "-5p-1"}, {flo(0), "0p0"}, {flo(minusZero), "-0p0"}, {flo(inf), "inf"}, {flo(-inf), "-inf"}, {flo(nan), "nan"}, {flo(otherNaN), "nan"}, {flo(math.MaxFloat64), "9007199254740991p971"}, {flo(math.SmallestNonzeroFloat64), "1p-1074"},
		{str(""), `""`}, {str("x"), `"x"`}, {str(`"`), `"\""`}, {str(`\`), `"\\"`}, {str(`\"`), `"\\\""`}, {str(`"\`), `"\"\\"`}, {str(`\\`), `"\\\\"`}, {str(`a"b\c`), `"a\"b\\c"`}, {str(`\n`), `"\\n"`},
		{str("a b\tc\n\x00"), "\"a b\tc\n\x00\""}, {str("é\xff"), "\"é\xff\""}, {str(","), `","`}, {str(strings.Repeat(`"`, 200)), `"` + strings.Repeat(`\"`, 200) + `"`},
		{list(), "[]"}, {list(num(1)), "[1]"}, {list(num(1), num(2), num(3)), "[1,2,3]"}, {list(list(), rec(""), str("")), `[[],{},""]`}, {list(list(num(1), num(2)), list(num(3))), "[[1,2],[3]]"}, {list(truth(1), flo(nan), flo(minusZero), str(", ")), `[true,nan,-0p0,", "]`},
		{rec(""), "{}"}, {rec("a", num(1)), "{a:1}"}, {rec("a b", num(1), str("x")), `{a:1,b:"x"}`}, {rec("a", list(num(1), str("x"))), `{a:[1,"x"]}`}, {rec("a b_1 c", rec("a", rec("")), list(rec("z", truth(0))), flo(0.5)), "{a:{a:{}},b_1:[{z:false}],c:1p-1}"},
		{nested(12), `[{a:[{a:[{a:[{a:[{a:["x"]}]}]}]}]}]`},
		{list(manyItems(199, num(1))...), "[" + strings.Repeat("1,", 198) + "1]"},
		{rec(strings.Repeat("n", 30), num(1)), "{" + strings.Repeat("n", 30) + ":1}"},
	} {
		if got, e := Text(c.v); got != c.want || e != api.OK {
			t.Errorf("Text(%+v): %q, %d, not %q", c.v, got, e, c.want)
		}
	}
}

// P4.3: only two bytes have something ahead of them.
func TestTextOfEveryByte(t *testing.T) {
	for c := range 256 {
		one := string([]byte{byte(c)})
		want := one
		if one == `"` || one == `\` {
			want = `\` + one
		}
		if got, e := Text(str("a" + one + "b")); got != `"a`+want+`b"` || e != api.OK {
			t.Errorf("Text of the byte %d: %q, %d", c, got, e)
		}
	}
}

// P4.3: what isn't right has no text.
func TestTextRefuses(t *testing.T) {
	for _, v := range []api.Value{
		{}, {Kind: 7}, {Kind: -1}, truth(2), str(strings.Repeat("x", 201)), list(manyItems(200, num(1))...), nested(13), rec("b a", num(1), num(2)), rec("a a", num(1), num(2)), rec("A", num(1)), rec("a"), rec("", num(1)), rec("a b", num(1)),
		{Kind: api.VInt, S: "x"}, {Kind: api.VInt, F: minusZero}, {Kind: api.VBool, F: nan}, {Kind: api.VFloat, N: 1}, {Kind: api.VStr, N: 1}, {Kind: api.VList, Names: []string{"a"}}, {Kind: api.VStr, Items: []api.Value{num(1)}},
		list(num(1), api.Value{}), rec("a", list(truth(2))), endless(), shared(60), nested(1 << 16),
	} {
		if got, e := Text(v); got != "" || e != api.ErrForm {
			t.Errorf("Text: %q, %d", got, e)
		}
		if Right(v) {
			t.Error("and it is right")
		}
	}
}

// Rule 1: calls end, and none panics, where values have themselves within them, or share their parts.
func TestEnds(t *testing.T) {
	if Right(endless()) || Right(shared(60)) || TypeRight(endlessType()) || TypeRight(sharedType(60)) {
		t.Error("right, without end")
	}
	if !Right(shared(6)) || Right(shared(7)) || !TypeRight(sharedType(6)) || TypeRight(sharedType(7)) {
		t.Error("127 and 255 parts that are shared")
	}
}

// Limits: 2^16 values within one another, in all calls.
func TestNestedDeep(t *testing.T) {
	const depth = 1 << 16
	a, b := nested(depth), nested(depth)
	inner := &b
	for len(inner.Items) > 0 {
		inner = &inner.Items[0]
	}
	if !Same(a, b) || !Equal(a, b) || Order(a, b) != 0 || !Same(a, Canon(a)) || Right(a) || Parts(a) != 500 {
		t.Error("nested deep")
	}
	inner.S = "y"
	if Same(a, b) || Equal(a, b) || Order(a, b) != -1 || Order(b, a) != 1 {
		t.Error("nested deep, and another one innermost")
	}
	if TypeRight(nestedType(depth)) || Fits(a, nestedType(depth)) {
		t.Error("a type nested deep")
	}
}

// Rule 4: nil and an empty list are one, in values and types.
func TestNilIsEmpty(t *testing.T) {
	for _, kind := range []int{api.VBool, api.VInt, api.VFloat, api.VStr, api.VList, api.VRec, 0, 7} {
		bare, filled := api.Value{Kind: kind}, api.Value{Kind: kind, Names: []string{}, Items: []api.Value{}}
		a, ea := Text(bare)
		b, eb := Text(filled)
		if Right(bare) != Right(filled) || !Same(bare, filled) || !Equal(bare, filled) || Order(bare, filled) != 0 || a != b || ea != eb || Parts(filled) != 1 {
			t.Error("empty lists of the kind", kind)
		}
		bareType, filledType := api.Type{Kind: kind}, api.Type{Kind: kind, Names: []string{}, Items: []api.Type{}}
		if TypeRight(bareType) != TypeRight(filledType) || Fits(bare, bareType) != Fits(bare, filledType) || Fits(bare, bareType) != Fits(filled, bareType) {
			t.Error("empty lists of the type", kind)
		}
	}
}

// Rule 5: what is handed in stays as it is, its spare room too.
func TestArgumentsStay(t *testing.T) {
	r := rand.New(rand.NewSource(4))
	for range 300 {
		a, b := withRoom(anyValue(r, 3)), withRoom(anyValue(r, 3))
		before := fmt.Sprintf("%+v %+v", showRoom(a), showRoom(b))
		ty, _ := typeOf(a)
		beforeType := fmt.Sprintf("%+v", ty)
		Right(a)
		Canon(a)
		Same(a, b)
		Equal(a, b)
		Order(a, b)
		Parts(a)
		Text(a)
		TypeRight(ty)
		Fits(a, ty)
		if after := fmt.Sprintf("%+v %+v", showRoom(a), showRoom(b)); after != before || fmt.Sprintf("%+v", ty) != beforeType {
			t.Fatalf("%s became %s", before, after)
		}
	}
}

// withRoom answers a value whose lists have spare room.
func withRoom(v api.Value) api.Value {
	v.Names = append(make([]string, 0, len(v.Names)+2), v.Names...)
	items := make([]api.Value, 0, len(v.Items)+2)
	for _, item := range v.Items {
		items = append(items, withRoom(item))
	}
	v.Items = items
	return v
}

// showRoom answers a value with its spare room laid open, and its floats' bits as numbers.
func showRoom(v api.Value) any {
	var items []any
	for _, item := range v.Items[:cap(v.Items)] {
		items = append(items, showRoom(item))
	}
	return []any{v.Kind, v.N, math.Float64bits(v.F), v.S, v.Names[:cap(v.Names)], items}
}
