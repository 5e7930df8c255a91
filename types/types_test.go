package types

import (
	"fmt"
	"math"
	"math/rand"
	"slices"
	"strings"
	"testing"
	"unsafe"

	"bascule/api"
	"bascule/parse"
	"bascule/value"
)

// plains are the kinds of types that have no Items, as the tests write them.
var plains = map[string]int{"bool": api.TBool, "int": api.TInt, "float": api.TFloat, "str": api.TStr, "none": api.TNone}

// ty reads a type: bool, int, float, str, none, [T], {a:T,b:T}.
func ty(text string) api.Type {
	t, rest := readType(text)
	if rest != "" {
		panic("no type: " + text)
	}
	return t
}

func readType(text string) (api.Type, string) {
	switch text[0] {
	case '[':
		item, rest := readType(text[1:])
		return listType(item), rest[1:]
	case '{':
		t := api.Type{Kind: api.TRec}
		for rest := text[1:]; ; rest = rest[1:] {
			if rest[0] == '}' {
				return t, rest[1:]
			}
			name, more, _ := strings.Cut(rest, ":")
			item, behind := readType(more)
			t.Names, t.Items = append(t.Names, name), append(t.Items, item)
			if rest = behind; rest[0] == '}' {
				return t, rest[1:]
			}
		}
	}
	for name, kind := range plains {
		if strings.HasPrefix(text, name) {
			return api.Type{Kind: kind}, text[len(name):]
		}
	}
	panic("no type: " + text)
}

func listType(item api.Type) api.Type { return api.Type{Kind: api.TList, Items: []api.Type{item}} }

// show tells all fields of any type, nil and an empty list alike.
func show(t api.Type) string {
	s := fmt.Sprint(t.Kind, len(t.Names), len(t.Items))
	for _, name := range t.Names {
		s += fmt.Sprintf(" %q", name)
	}
	for _, item := range t.Items {
		s += " (" + show(item) + ")"
	}
	return s
}

// paths lays a type open: what stands at each path in it, TNone being nothing.
func paths(t api.Type, at string, all map[string]string) map[string]string {
	switch t.Kind {
	case api.TNone:
		return all
	case api.TList:
		paths(t.Items[0], at+"/0", all)
	case api.TRec:
		for i, name := range t.Names {
			paths(t.Items[i], at+"/"+name, all)
		}
	}
	all[at] = fmt.Sprint(t.Kind, " ", strings.Join(t.Names, " "))
	return all
}

// built is the type that has what stands at each path from one on.
func built(all map[string]string, at string) api.Type {
	what, is := all[at]
	if !is {
		return api.Type{Kind: api.TNone}
	}
	t := api.Type{Kind: int(what[0] - '0')}
	switch t.Kind {
	case api.TList:
		t.Items = []api.Type{built(all, at+"/0")}
	case api.TRec:
		t.Names = strings.Fields(what[1:])
		for _, name := range t.Names {
			t.Items = append(t.Items, built(all, at+"/"+name))
		}
	}
	return t
}

// seekJoin joins two types path by path: they join just where no path has two things.
func seekJoin(a, b api.Type) (api.Type, bool) {
	all, more := paths(a, "", map[string]string{}), paths(b, "", map[string]string{})
	for at, what := range more {
		if other, is := all[at]; is && other != what {
			return api.Type{}, false
		}
		all[at] = what
	}
	return built(all, ""), true
}

// size answers how many parts a type has, and how many of them are within one another.
func size(t api.Type) (parts, depth int) {
	for _, item := range t.Items {
		p, d := size(item)
		parts, depth = parts+p, max(depth, d)
	}
	return parts + 1, depth + 1
}

// flat is a record of so many parts.
func flat(parts int) api.Type {
	t := api.Type{Kind: api.TRec}
	for i := range parts - 1 {
		t.Names = append(t.Names, fmt.Sprintf("f%03d", i))
		t.Items = append(t.Items, api.Type{Kind: api.TInt})
	}
	return t
}

// nested is lists within one another, so many with what is in the last one, which is of depth 1.
func nested(depth int, last api.Type) api.Type {
	for range depth - 1 {
		last = listType(last)
	}
	return last
}

func record(names string, items ...api.Type) api.Type {
	return api.Type{Kind: api.TRec, Names: strings.Fields(names), Items: items}
}

// manyTypes are all those of little size, and some greater ones.
func manyTypes() []api.Type {
	small := []api.Type{ty("bool"), ty("int"), ty("float"), ty("str"), ty("none"), ty("{}")}
	middle := slices.Clone(small)
	for _, a := range small {
		middle = append(middle, listType(a), record("a", a), record("b", a))
		for _, b := range small[2:] {
			middle = append(middle, record("a b", a, b))
		}
	}
	all := slices.Clone(middle)
	for i, a := range middle {
		all = append(all, listType(a), record("a", a), record("a b", a, middle[(7*i+3)%len(middle)]), listType(listType(a)), listType(record("a c", middle[(5*i+1)%len(middle)], a)))
	}
	for _, s := range []string{"{aa:int}", "{a:int,b:int,c:int}", "{a:int,b:none,c:[none]}", "{nan:int}", "{a:[{b:none}]}", "{a:[{b:[int]}]}", "[[[[none]]]]", "[[[[int]]]]", "[[[none]]]"} {
		all = append(all, ty(s))
	}
	return append(all, flat(200), nested(12, ty("int")), nested(12, ty("none")), nested(11, ty("none")))
}

// wrongTypes are such as aren't right, each for one cause.
func wrongTypes() []api.Type {
	one := []api.Type{{Kind: api.TInt}}
	all := []api.Type{{}, {Kind: -1}, {Kind: 8}, {Kind: math.MinInt}, {Kind: math.MaxInt}, {Kind: api.TList}, {Kind: api.TList, Items: slices.Repeat(one, 2)}, {Kind: api.TList, Names: []string{"a"}, Items: one}, {Kind: api.TRec, Items: one}, {Kind: api.TRec, Names: []string{"a"}}, record("b a", one[0], one[0]), record("a a", one[0], one[0]), record("A", one[0]), record(strings.Repeat("a", 31), one[0]), flat(201), nested(13, ty("int")), nested(100, ty("int"))}
	for kind := range 9 {
		if kind != api.TList && kind != api.TRec {
			all = append(all, api.Type{Kind: kind, Items: one}, api.Type{Kind: kind, Names: []string{"a"}}, api.Type{Kind: kind, Names: []string{"a"}, Items: one})
		}
	}
	for _, t := range slices.Clone(all) {
		all = append(all, listType(t), record("a b", one[0], t))
	}
	within := listType(api.Type{})
	within.Items[0] = within
	return append(all, within)
}

func checkJoin(t *testing.T, a, b api.Type, want api.Type, e api.Errno) {
	t.Helper()
	for _, pair := range [][2]api.Type{{a, b}, {b, a}} {
		if got, err := Join(pair[0], pair[1]); show(got) != show(want) || err != e {
			t.Fatalf("the join of %.200s and %.200s: %.200s, error %d, not %.200s, %d", show(pair[0]), show(pair[1]), show(got), err, show(want), e)
		}
	}
}

// P9.1: types that join, and that don't, one by one.
func TestJoinPlain(t *testing.T) {
	for _, c := range [][3]string{
		{"bool", "bool", "bool"}, {"int", "int", "int"}, {"float", "float", "float"}, {"str", "str", "str"}, {"none", "none", "none"},
		{"none", "bool", "bool"}, {"none", "int", "int"}, {"none", "float", "float"}, {"none", "str", "str"}, {"none", "[int]", "[int]"}, {"none", "[none]", "[none]"}, {"none", "{}", "{}"}, {"none", "{a:none,b:[str]}", "{a:none,b:[str]}"},
		{"[int]", "[int]", "[int]"}, {"[none]", "[int]", "[int]"}, {"[none]", "[none]", "[none]"}, {"[none]", "[[int]]", "[[int]]"}, {"[[none]]", "[[int]]", "[[int]]"}, {"[[none]]", "[none]", "[[none]]"}, {"[none]", "[{a:int}]", "[{a:int}]"},
		{"{}", "{}", "{}"}, {"{a:int}", "{a:int}", "{a:int}"}, {"{a:none}", "{a:int}", "{a:int}"}, {"{a:none,b:int}", "{a:[str],b:none}", "{a:[str],b:int}"}, {"{a:{b:none}}", "{a:{b:bool}}", "{a:{b:bool}}"}, {"[{a:none,b:[none]}]", "[{a:str,b:[float]}]", "[{a:str,b:[float]}]"},
		{"bool", "int", ""}, {"int", "float", ""}, {"float", "str", ""}, {"str", "[str]", ""}, {"str", "[none]", ""}, {"[int]", "{a:int}", ""}, {"[int]", "int", ""}, {"{}", "none", "{}"}, {"{}", "[none]", ""}, {"{}", "bool", ""},
		{"[int]", "[float]", ""}, {"[int]", "[[int]]", ""}, {"[int]", "[[none]]", ""}, {"[[int]]", "[[str]]", ""},
		{"{a:int}", "{b:int}", ""}, {"{a:int}", "{}", ""}, {"{a:int}", "{a:int,b:int}", ""}, {"{a:none}", "{b:none}", ""}, {"{a:int}", "{a:float}", ""}, {"{a:int,b:int}", "{a:int,b:str}", ""}, {"{a:int,b:int}", "{a:str,b:int}", ""}, {"{a:int,b:int}", "{a:int,c:int}", ""}, {"{a:{b:int}}", "{a:{c:int}}", ""},
	} {
		if c[2] == "" {
			checkJoin(t, ty(c[0]), ty(c[1]), api.Type{}, api.ErrType)
		} else {
			checkJoin(t, ty(c[0]), ty(c[1]), ty(c[2]), api.OK)
		}
	}
}

// P9.1, P9.3: joins of many types, held against one that goes by paths; in either order, and of each with itself.
func TestJoinMany(t *testing.T) {
	all := manyTypes()
	joined := 0
	for i, a := range all {
		checkJoin(t, a, a, a, api.OK)
		for _, b := range all[i+1:] {
			if want, is := seekJoin(a, b); is {
				checkJoin(t, a, b, want, api.OK)
				joined++
			} else {
				checkJoin(t, a, b, api.Type{}, api.ErrType)
			}
		}
	}
	if joined < 1000 {
		t.Error("hardly any join:", joined)
	}
}

// P9.1: what isn't right joins with nothing, whatever stands beside it, and is nothing.
func TestJoinWrong(t *testing.T) {
	rights := []api.Type{ty("none"), ty("int"), ty("[int]"), ty("{a:int}"), ty("{a:int,b:int}"), flat(200)}
	for _, wrong := range append(wrongTypes(), nested(1<<16, ty("int"))) {
		for _, other := range append([]api.Type{wrong, {}, {Kind: api.TList}}, rights...) {
			for _, pair := range [][2]api.Type{{wrong, other}, {other, wrong}} {
				if got, e := Join(pair[0], pair[1]); e != api.ErrArg || show(got) != show(api.Type{}) {
					t.Fatalf("the join of %.200s and %.200s: error %d", showTop(pair[0]), showTop(pair[1]), e)
				}
				if Is(pair[0], pair[1]) {
					t.Fatalf("%.200s is %.200s", showTop(pair[0]), showTop(pair[1]))
				}
			}
		}
	}
}

// showTop tells of a type that may have itself within itself.
func showTop(t api.Type) string {
	return fmt.Sprint(t.Kind, t.Names, len(t.Items))
}

// P9.1: a join may have more parts than a right type; it is what they join to all the same.
func TestJoinGreat(t *testing.T) {
	for _, n := range [][2]int{{99, 100}, {100, 100}, {198, 198}} {
		a, b := record("a b", ty("none"), flat(n[0])), record("a b", flat(n[1]), ty("none"))
		whole := record("a b", flat(n[1]), flat(n[0]))
		checkJoin(t, a, b, whole, api.OK)
		if right := n[0]+n[1]+1 <= 200; Is(a, whole) != right || Is(b, whole) != right || Is(a, b) || Is(b, a) {
			t.Error("what is great", n)
		}
	}
	checkJoin(t, nested(12, ty("int")), nested(12, ty("none")), nested(12, ty("int")), api.OK)
	checkJoin(t, nested(11, ty("none")), nested(12, ty("int")), nested(12, ty("int")), api.OK)
	checkJoin(t, ty("none"), nested(12, ty("int")), nested(12, ty("int")), api.OK)
	checkJoin(t, ty("none"), flat(200), flat(200), api.OK)
	checkJoin(t, nested(11, ty("int")), nested(12, ty("int")), api.Type{}, api.ErrType)
}

// P9.1: what may stand for what.
func TestIs(t *testing.T) {
	for _, c := range [][2]string{{"int", "int"}, {"none", "int"}, {"none", "none"}, {"none", "[none]"}, {"none", "{a:int}"}, {"[none]", "[int]"}, {"[none]", "[[none]]"}, {"[[none]]", "[[str]]"}, {"{}", "{}"}, {"{a:none,b:int}", "{a:bool,b:int}"}, {"{a:[none]}", "{a:[float]}"}} {
		if !Is(ty(c[0]), ty(c[1])) {
			t.Errorf("%s isn't %s", c[0], c[1])
		}
		if c[0] != c[1] && Is(ty(c[1]), ty(c[0])) {
			t.Errorf("%s is %s", c[1], c[0])
		}
	}
	for _, c := range [][2]string{{"int", "float"}, {"int", "bool"}, {"[int]", "[float]"}, {"[int]", "int"}, {"{a:int}", "{a:int,b:int}"}, {"{a:int}", "{b:int}"}, {"{a:none,b:int}", "{a:int,b:none}"}} {
		if Is(ty(c[0]), ty(c[1])) || Is(ty(c[1]), ty(c[0])) {
			t.Errorf("%s and %s: one is the other", c[0], c[1])
		}
	}
	all := manyTypes()
	for _, a := range all {
		for _, b := range all {
			joined, is := seekJoin(a, b)
			if want := is && show(joined) == show(b); Is(a, b) != want {
				t.Fatalf("%s is %s: not %v", show(a), show(b), want)
			}
		}
	}
}

// P9.1: those that are the same part by part, and those that aren't, right or not.
func TestSame(t *testing.T) {
	wrongs := wrongTypes()
	all := append(manyTypes(), wrongs[:len(wrongs)-1]...)
	told := make([]string, len(all))
	for i, a := range all {
		told[i] = show(a)
	}
	for i, a := range all {
		for k, b := range all {
			if want := told[i] == told[k]; Same(a, b) != want {
				t.Fatalf("%.200s and %.200s: not %v", told[i], told[k], want)
			}
		}
	}
	whole := record("a b", ty("int"), ty("[str]"))
	for _, other := range []func(t *api.Type){
		func(t *api.Type) { t.Kind = api.TList }, func(t *api.Type) { t.Kind = 0 }, func(t *api.Type) { t.Names = nil }, func(t *api.Type) { t.Names = []string{"a"} }, func(t *api.Type) { t.Names = []string{"a", "c"} }, func(t *api.Type) { t.Names = []string{"b", "a"} }, func(t *api.Type) { t.Names = []string{"a", "b", "c"} },
		func(t *api.Type) { t.Items = nil }, func(t *api.Type) { t.Items = t.Items[:1] }, func(t *api.Type) { t.Items = []api.Type{ty("int"), ty("[none]")} }, func(t *api.Type) { t.Items = []api.Type{ty("[str]"), ty("int")} }, func(t *api.Type) { t.Items = append(t.Items[:2:2], ty("int")) },
	} {
		differs := whole
		other(&differs)
		for _, pair := range [][2]api.Type{{whole, differs}, {listType(whole), listType(differs)}, {{Items: []api.Type{{}, whole}}, {Items: []api.Type{{}, differs}}}} {
			if Same(pair[0], pair[1]) || Same(pair[1], pair[0]) || !Same(pair[0], pair[0]) || !Same(pair[1], pair[1]) {
				t.Errorf("%s and %s", show(pair[0]), show(pair[1]))
			}
		}
	}
	if !Same(api.Type{Kind: api.TRec, Names: []string{}, Items: []api.Type{}}, api.Type{Kind: api.TRec}) || !Same(api.Type{}, api.Type{Items: []api.Type{}}) {
		t.Error("nil and an empty list aren't one")
	}
	if !Same(nested(1<<16, ty("int")), nested(1<<16, ty("int"))) || Same(nested(1<<16, ty("int")), nested(1<<16, ty("str"))) || Same(nested(1<<16, ty("int")), nested(1<<16-1, ty("int"))) {
		t.Error("nested deep")
	}
}

// P9.3: joins of three are the same however they are put together, and so is whether there is one.
func TestJoinThree(t *testing.T) {
	r := rand.New(rand.NewSource(1))
	joined := 0
	for range 30000 {
		whole := anyType(r, 5)
		a, b, c := thinned(r, whole), thinned(r, whole), thinned(r, whole)
		if r.Intn(3) == 0 {
			c = anyType(r, 4)
		}
		ab, e1 := Join(a, b)
		left, e2 := Join(ab, c)
		bc, e3 := Join(b, c)
		right, e4 := Join(a, bc)
		if (e1 == api.OK && e2 == api.OK) != (e3 == api.OK && e4 == api.OK) || e1 == api.OK && e2 == api.OK && !Same(left, right) {
			t.Fatalf("%s, %s, %s", show(a), show(b), show(c))
		}
		if e1 == api.OK && e2 == api.OK {
			joined++
			if !Is(a, left) || !Is(b, left) || !Is(c, left) {
				t.Fatalf("%s isn't all of %s, %s, %s", show(left), show(a), show(b), show(c))
			}
		}
	}
	if joined < 1000 {
		t.Error("hardly any join:", joined)
	}
}

// anyType answers a right type of so many within one another at most.
func anyType(r *rand.Rand, depth int) api.Type {
	switch k := r.Intn(8); {
	case depth > 1 && k < 2:
		return listType(anyType(r, depth-1))
	case depth > 1 && k < 4:
		t := api.Type{Kind: api.TRec}
		for _, name := range []string{"a", "b", "c"} {
			if r.Intn(2) == 0 {
				t.Names, t.Items = append(t.Names, name), append(t.Items, anyType(r, depth-1))
			}
		}
		return t
	}
	return api.Type{Kind: []int{api.TBool, api.TInt, api.TFloat, api.TStr, api.TNone}[r.Intn(5)]}
}

// thinned answers a type of which some parts are TNone.
func thinned(r *rand.Rand, t api.Type) api.Type {
	if r.Intn(5) == 0 {
		return api.Type{Kind: api.TNone}
	}
	t.Items = slices.Clone(t.Items)
	for i, item := range t.Items {
		t.Items[i] = thinned(r, item)
	}
	return t
}

// P9.3: a value of one of two types that join is of what they join to, unless it has a list without Items.
func TestJoinedValues(t *testing.T) {
	r := rand.New(rand.NewSource(2))
	held := 0
	for range 20000 {
		whole := anyType(r, 4)
		a, b := thinned(r, whole), thinned(r, whole)
		if r.Intn(3) == 0 {
			a = whole
		}
		joined, e := Join(a, b)
		if e != api.OK {
			t.Fatalf("%s and %s: error %d", show(a), show(b), e)
		}
		for _, of := range []api.Type{a, b} {
			if v, is := anyOf(r, of); is {
				held++
				if !value.Fits(v, of) || !value.Fits(v, joined) {
					t.Fatalf("%v of %s isn't of %s", v, show(of), show(joined))
				}
			}
		}
	}
	if held < 1000 {
		t.Error("hardly any value:", held)
	}
}

// anyOf answers a value of a type, without lists that have no Items; false, if there is none.
func anyOf(r *rand.Rand, t api.Type) (api.Value, bool) {
	v := api.Value{Kind: t.Kind, Names: t.Names}
	switch t.Kind {
	case api.TNone:
		return api.Value{}, false
	case api.TInt, api.TBool:
		v.N = int64(r.Intn(2))
	case api.TFloat:
		v.F = r.Float64()
	case api.TStr:
		v.S = "s"
	}
	items := t.Items
	if t.Kind == api.TList {
		items = slices.Repeat(t.Items, 1+r.Intn(2))
	}
	for _, of := range items {
		item, is := anyOf(r, of)
		if !is {
			return api.Value{}, false
		}
		v.Items = append(v.Items, item)
	}
	return v, true
}

// lists answers all the lists of a type that have room.
func lists(t api.Type) []uintptr {
	var all []uintptr
	if cap(t.Names) > 0 {
		all = append(all, uintptr(unsafe.Pointer(unsafe.SliceData(t.Names))))
	}
	if cap(t.Items) > 0 {
		all = append(all, uintptr(unsafe.Pointer(unsafe.SliceData(t.Items))))
	}
	for _, name := range t.Names {
		all = append(all, uintptr(unsafe.Pointer(unsafe.StringData(name))))
	}
	for _, item := range t.Items {
		all = append(all, lists(item)...)
	}
	return all
}

// checkNew tells whether what is answered shares memory with what was handed in, or with itself.
func checkNew(t *testing.T, answer api.Type, given ...api.Type) {
	t.Helper()
	met := map[uintptr]bool{}
	for _, g := range given {
		for _, at := range lists(g) {
			met[at] = true
		}
	}
	for _, at := range lists(answer) {
		if met[at] {
			t.Fatalf("%s shares memory", show(answer))
		}
		met[at] = true
	}
}

// withRoom answers a type whose lists have spare room.
func withRoom(t api.Type) api.Type {
	t.Names = append(make([]string, 0, len(t.Names)+2), t.Names...)
	items := make([]api.Type, 0, len(t.Items)+2)
	for _, item := range t.Items {
		items = append(items, withRoom(item))
	}
	t.Items = items
	return t
}

// showRoom tells a type with its spare room laid open.
func showRoom(t api.Type) string {
	s := fmt.Sprintf("%d %q %d", t.Kind, t.Names[:cap(t.Names)], len(t.Items))
	for _, item := range t.Items[:cap(t.Items)] {
		s += " (" + showRoom(item) + ")"
	}
	return s
}

// Rules 5, 7a: joins are new memory, and what is joined stays as it is.
func TestJoinIsNew(t *testing.T) {
	r := rand.New(rand.NewSource(3))
	all := manyTypes()
	for i := range 5000 {
		a := withRoom(all[i%len(all)])
		b := withRoom(thinned(r, a))
		if i%3 == 0 {
			a, b = b, withRoom(thinned(r, a))
		}
		if i%5 == 0 {
			b = a // one list handed in twice
		}
		before := showRoom(a) + showRoom(b)
		joined, e := Join(a, b)
		if e != api.OK {
			t.Fatalf("%s and %s: error %d", show(a), show(b), e)
		}
		Is(a, b)
		Same(a, b)
		if showRoom(a)+showRoom(b) != before {
			t.Fatalf("%s became another one", before)
		}
		checkNew(t, joined, a, b)
	}
	twice := listType(ty("{a:int}"))
	shares := record("a b", twice, twice)
	for _, b := range []api.Type{ty("none"), ty("{a:none,b:none}"), shares} {
		joined, _ := Join(shares, b)
		checkNew(t, joined, shares, b)
	}
}

// varsOf answers variables of types, by names that stand ahead of them: "x:int y:[str]".
func varsOf(text string) []api.Var {
	var vars []api.Var
	for _, one := range strings.Fields(text) {
		name, of, _ := strings.Cut(one, ":")
		vars = append(vars, api.Var{Name: name, Type: ty(of)})
	}
	return vars
}

// expr reads an expression.
func expr(text string) api.Expr {
	x, at, e := parse.Parse(text)
	if e != api.OK {
		panic(fmt.Sprintf("no expression: %s: %d at %d", text, e, at))
	}
	return x
}

func checkType(t *testing.T, x api.Expr, vars []api.Var, want api.Type, e api.Errno) {
	t.Helper()
	if got, err := Check(x, vars); show(got) != show(want) || err != e {
		s, _ := parse.Text(x)
		t.Fatalf("%.300s: %.300s, error %d, not %.300s, %d", s, show(got), err, show(want), e)
	}
}

// P9.2: expressions one by one, the examples among them: their types, or (by a number) their errors.
func TestCheckPlain(t *testing.T) {
	vars := varsOf("x:int x:str f:float b:bool s:str n:none l:[int] e:[none] ll:[[int]] lf:[float] r:{a:int,b:[str]} q:{a:none,b:[none]} z:{} rn:{nan:int,true:bool}")
	for text, want := range map[string]any{
		"1": "int", "true": "bool", "false": "bool", "3p1": "float", "nan": "float", "inf": "float", `""`: "str", `"s"`: "str",
		"x": "int", "f": "float", "b": "bool", "s": "str", "n": "none", "l": "[int]", "e": "[none]", "r": "{a:int,b:[str]}", "z": "{}", "y": api.ErrNone, "xx": api.ErrNone,
		"x+1 < 2": "bool", "[x, 2]": "[int]", "[]": "[none]", "[] + [1]": "[int]", "x + 1p0": api.ErrType,
		"-x": "int", "-f": "float", "-b": api.ErrType, "-s": api.ErrType, "-n": api.ErrType, "-l": api.ErrType, "!b": "bool", "!x": api.ErrType, "!n": api.ErrType,
		"s+s": "str", "f+f": "float", "x+x": "int", "b+b": api.ErrType, "n+n": api.ErrType, "n+x": api.ErrType, "l+n": api.ErrType, "n+l": api.ErrType, "r+r": api.ErrType, "l+l": "[int]", "e+l": "[int]", "l+e": "[int]", "e+e": "[none]", "ll+[e]": "[[int]]", "ll+e": "[[int]]", "l+lf": api.ErrType, "l+ll": api.ErrType, "l+x": api.ErrType, "x+l": api.ErrType,
		"x-x": "int", "f-f": "float", "s-s": api.ErrType, "l-l": api.ErrType, "x*x": "int", "x*f": api.ErrType, "x/x": "int", "f/f": "float", "s/s": api.ErrType, "x%x": "int", "f%f": api.ErrType, "x%f": api.ErrType,
		"x==x": "bool", "n==x": "bool", "x==n": "bool", "n==n": "bool", "e==ll": "bool", "r==q": "bool", "z==z": "bool", "x==f": api.ErrType, "b==x": api.ErrType, "l==lf": api.ErrType, "r==z": api.ErrType, "q=={a:s,b:[s]}": "bool",
		"x<x": "bool", "f<=f": "bool", "s<s": "bool", "b<b": api.ErrType, "l<l": api.ErrType, "x<f": api.ErrType, "n<n": api.ErrType, "x<=n": api.ErrType,
		"b&&b": "bool", "b||b": "bool", "b&&x": api.ErrType, "x||b": api.ErrType, "n&&b": api.ErrType, "b||n": api.ErrType,
		"b?x:x": "int", "b?n:x": "int", "b?x:n": "int", "b?n:n": "none", "b?e:l": "[int]", "b?r:q": "{a:int,b:[str]}", "b?x:f": api.ErrType, "x?x:x": api.ErrType, "n?x:x": api.ErrType, "b?r:z": api.ErrType,
		"[n]": "[none]", "[n,x]": "[int]", "[x,n]": "[int]", "[x,f]": api.ErrType, "[[],[],[1]]": "[[int]]", "[[],[[]],[[1]]]": "[[[int]]]", "[[],[1],[[]]]": api.ErrType, "[[1],[],[true]]": api.ErrType, "[q,r]": "[{a:int,b:[str]}]", "[{a:1,b:[]},q,r]": "[{a:int,b:[str]}]", "[{a:[],b:1},{a:[1],b:n},{a:n,b:2}]": "[{a:[int],b:int}]", "[n,n,n,x]": "[int]", "[x,n,f]": api.ErrType, "[z,{}]": "[{}]", "[z,r]": api.ErrType,
		"{}": "{}", "{a:x}": "{a:int}", "{b:x,a:[],len:n}": "{a:[none],b:int,len:none}", "{a:y}": api.ErrNone, "{a:{b:s}}": "{a:{b:str}}",
		"r.a": "int", "r.b": "[str]", "r.c": api.ErrField, "q.a": "none", "z.a": api.ErrField, "x.a": api.ErrType, "n.a": api.ErrType, "l.a": api.ErrType, "rn.true": "bool", "{a:{b:1}}.a.b": "int", "{a:1}.b": api.ErrField,
		"l[0]": "int", "ll[0]": "[int]", "ll[0][1]": "int", "e[0]": api.ErrType, "[][0]": api.ErrType, "[[]][0]": "[none]", "[[]][0][0]": api.ErrType, "q.b[0]": api.ErrType, "l[f]": api.ErrType, "l[n]": api.ErrType, "l[s]": api.ErrType, "s[0]": api.ErrType, "n[0]": api.ErrType, "r[0]": api.ErrType, "x[0]": api.ErrType,
		"len(l)": "int", "len(s)": "int", "len(e)": "int", "len([])": "int", "len(r)": api.ErrType, "len(x)": api.ErrType, "len(n)": api.ErrType,
		"float(x)": "float", "float(f)": api.ErrType, "float(n)": api.ErrType, "int(f)": "int", "int(x)": api.ErrType, "int(s)": api.ErrType,
		"str(x)": "str", "str(f)": "str", "str(b)": "str", "str(s)": "str", "str(n)": api.ErrType, "str(l)": api.ErrType, "str(r)": api.ErrType,
	} {
		switch w := want.(type) {
		case string:
			checkType(t, expr(text), vars, ty(w), api.OK)
		case api.Errno:
			checkType(t, expr(text), vars, api.Type{}, w)
		}
	}
	checkType(t, expr("x"), nil, api.Type{}, api.ErrNone)
	checkType(t, expr("1"), nil, ty("int"), api.OK)
}

// P9.2: of two variables with one Name the first one counts, whatever else they have; a Name that is none finds nothing.
func TestCheckVars(t *testing.T) {
	vars := []api.Var{{Name: "", Type: ty("bool")}, {Name: "a", Type: ty("str"), Label: -9, Init: api.Value{Kind: 77}}, {Name: "b", Type: ty("int")}, {Name: "a", Type: ty("int")}, {Name: "true", Type: ty("int")}, {Name: "b", Type: ty("[int]")}, {Name: "B", Type: ty("none")}}
	checkType(t, expr("a"), vars, ty("str"), api.OK)
	checkType(t, expr("b"), vars, ty("int"), api.OK)
	checkType(t, expr("true"), vars, ty("bool"), api.OK)
	checkType(t, expr("[a,b]"), vars, api.Type{}, api.ErrType)
	checkType(t, expr("c"), vars, api.Type{}, api.ErrNone)
	checkType(t, expr("a"), vars[2:], ty("int"), api.OK)
	var many []api.Var
	for i := range 3000 {
		many = append(many, api.Var{Name: fmt.Sprint("v", i), Type: ty("int")})
	}
	many[2999].Type = ty("str")
	checkType(t, expr("v2998"), many, ty("int"), api.OK)
	checkType(t, expr("v2999"), many, ty("str"), api.OK)
}

// P9.2: the first error, from the first Kid to the last one, each wholly, ahead of the expression's own.
func TestCheckFirstError(t *testing.T) {
	vars := varsOf("x:int b:bool s:str r:{a:int} e:[none]")
	vars = append(vars, api.Var{Name: "w", Type: flat(200)})
	faults := []struct {
		text string
		e    api.Errno
	}{{"y", api.ErrNone}, {"r.b", api.ErrField}, {"-b", api.ErrType}, {"[w]", api.ErrDeep}}
	for _, one := range faults {
		checkType(t, expr(one.text), vars, api.Type{}, one.e)
		for _, around := range []string{"-@", "!@", "len(@)", "float(@)", "int(@)", "str(@)", "(@).a", "(@)[b]", "s[@]", "[@]", "{a:@}", "@+b", "x+@", "b+@", "@-s", "s*@", "@/x", "b%@", "@==x", "x==@", "@<x", "b<=@", "@&&x", "x&&@", "b||@", "x?@:b", "@?x:s", "x?b:@", "b?x:@", "[x,s,@]", "[x,@,s]", "{a:x,b:-(@)}", "(-@).a", "len(@+x)"} {
			checkType(t, expr(strings.ReplaceAll(around, "@", "("+one.text+")")), vars, api.Type{}, one.e)
		}
		for _, two := range faults {
			for _, both := range []string{"@+#", "@-#", "@*#", "@/#", "@%#", "@==#", "@<#", "@<=#", "@&&#", "@||#", "@?#:x", "x?@:#", "@?x:#", "[x,@,#]", "[@,s,x,#]", "{a:@,b:#}", "{b:@,c:1,d:#}", "(@)[#]", "-(@)+#", "[[@]]+#", "(b?@:x)==#", "{a:[s,@],b:x}==#", "(@).a+(#).a"} {
				text := strings.NewReplacer("@", "("+one.text+")", "#", "("+two.text+")").Replace(both)
				checkType(t, expr(text), vars, api.Type{}, one.e)
			}
		}
	}
	checkType(t, expr("{b:y,a:r.b}"), vars, api.Type{}, api.ErrField) // a record's Kids stand in the order of its Names
	checkType(t, expr("[x,s]+y"), vars, api.Type{}, api.ErrType)
	checkType(t, expr("y+[x,s]"), vars, api.Type{}, api.ErrNone)
}

// P9.2: ErrArg ahead of all else.
func TestCheckArguments(t *testing.T) {
	vars := varsOf("x:int")
	for _, x := range []api.Expr{{}, {Kind: 24}, {Kind: -1}, {Kind: api.EVar}, {Kind: api.EVar, S: "true"}, {Kind: api.EVar, S: "x", Kids: []api.Expr{expr("x")}}, {Kind: api.ENeg}, {Kind: api.EAdd, Kids: []api.Expr{expr("x")}}, {Kind: api.EIf, Kids: []api.Expr{expr("x"), expr("x")}}, {Kind: api.EIndex, Kids: []api.Expr{expr("x")}}, {Kind: api.EConst}, {Kind: api.EConst, V: api.Value{Kind: api.VList}}, {Kind: api.EConst, V: api.Value{Kind: api.VInt, N: -1}}, {Kind: api.ERec, Names: []string{"a"}}, {Kind: api.EField, S: "nan", Kids: []api.Expr{expr("x")}}, {Kind: api.EList, Kids: slices.Repeat([]api.Expr{expr("x")}, 200)}} {
		checkType(t, x, vars, api.Type{}, api.ErrArg)
		checkType(t, x, nil, api.Type{}, api.ErrArg)
		checkType(t, api.Expr{Kind: api.EAdd, Kids: []api.Expr{expr("y"), x}}, vars, api.Type{}, api.ErrArg)
		checkType(t, api.Expr{Kind: api.ENot, Kids: []api.Expr{x}}, vars, api.Type{}, api.ErrArg)
	}
	endless := api.Expr{Kind: api.EList, Kids: make([]api.Expr, 1)}
	endless.Kids[0] = endless
	if _, e := Check(endless, vars); e != api.ErrArg {
		t.Error("what has itself within itself: error", e)
	}
	for _, wrong := range wrongTypes() {
		for at := range 3 {
			all := varsOf("x:int y:str z:[none]")
			all[at].Type = wrong
			for _, text := range []string{"1", "x", "y", "w", "x+y", "-y"} {
				if got, e := Check(expr(text), all); e != api.ErrArg || show(got) != show(api.Type{}) {
					t.Fatalf("%s with a variable %d of %.200s: error %d", text, at, showTop(wrong), e)
				}
			}
		}
		second := append(varsOf("x:int"), api.Var{Name: "x", Type: wrong})
		if _, e := Check(expr("x"), second); e != api.ErrArg {
			t.Fatalf("a second x of %.200s: error %d", showTop(wrong), e)
		}
	}
}

// P9.2: ErrDeep, where the type that would come isn't right for its size: it may have 200 parts, and 12 of them within one another.
func TestCheckDeep(t *testing.T) {
	for n := 190; n <= 200; n++ {
		vars := []api.Var{{Name: "x", Type: flat(n)}}
		for _, c := range []struct {
			text string
			more int
			want api.Type
		}{{"x", 0, flat(n)}, {"[x]", 1, listType(flat(n))}, {"[x,x]", 1, listType(flat(n))}, {"[[x]]", 2, listType(listType(flat(n)))}, {"{a:x}", 1, record("a", flat(n))}, {"{a:x,b:1}", 2, record("a b", flat(n), ty("int"))}, {"{a:1,b:[],c:x}", 4, record("a b c", ty("int"), ty("[none]"), flat(n))}, {"[x][0]", 1, flat(n)}, {"[x]+[]", 1, listType(flat(n))}, {"{a:x}.a", 1, flat(n)}, {"len([x])", 1, ty("int")}, {"[x]==[x]", 1, ty("bool")}} {
			if n+c.more <= 200 {
				checkType(t, expr(c.text), vars, c.want, api.OK)
			} else {
				checkType(t, expr(c.text), vars, api.Type{}, api.ErrDeep)
			}
		}
	}
	for n := 9; n <= 12; n++ {
		for _, last := range []string{"int", "none", "{}"} {
			in := nested(n, ty(last))
			vars := []api.Var{{Name: "x", Type: in}}
			for _, c := range []struct {
				text string
				more int
				want api.Type
			}{{"x", 0, in}, {"x+x", 0, in}, {"x==x", 0, ty("bool")}, {"true?x:x", 0, in}, {"x[0]", 0, in.Items[0]}, {"[x]", 1, listType(in)}, {"{a:1,b:x}", 1, record("a b", ty("int"), in)}, {"[[x]]", 2, listType(listType(in))}, {"{a:[x]}", 2, record("a", listType(in))}, {"[{a:x}]", 2, listType(record("a", in))}, {"[[x]][0]", 2, listType(in)}, {"len([x])", 1, ty("int")}} {
				if n+c.more <= 12 {
					checkType(t, expr(c.text), vars, c.want, api.OK)
				} else {
					checkType(t, expr(c.text), vars, api.Type{}, api.ErrDeep)
				}
			}
		}
	}
}

// P9.2: a right expression whose type is one too many, without variables.
func TestCheckDeepAlone(t *testing.T) {
	within := func(n int, last string) api.Expr {
		return expr(strings.Repeat("[", n) + last + strings.Repeat("]", n))
	}
	checkType(t, within(11, ""), nil, nested(12, ty("none")), api.OK)
	checkType(t, within(11, "1"), nil, nested(12, ty("int")), api.OK)
	checkType(t, within(12, ""), nil, api.Type{}, api.ErrDeep)
	whole := api.Expr{Kind: api.ERec}
	for i := range 100 {
		whole.Names = append(whole.Names, fmt.Sprintf("f%03d", i))
		whole.Kids = append(whole.Kids, expr("[]"))
	}
	checkType(t, whole, nil, api.Type{}, api.ErrDeep) // 201 parts
	whole.Kids[50] = expr("1")
	if got, e := Check(whole, nil); e != api.OK || !value.TypeRight(got) {
		t.Error("200 parts: error", e)
	}
}

// P9.2: joins that have more parts than a right type: the size counts where the type itself comes, and only if there is one.
func TestCheckGreatJoins(t *testing.T) {
	for more := range 3 {
		vars := []api.Var{{Name: "p", Type: record("a b", ty("none"), flat(98))}, {Name: "q", Type: record("a b", flat(99+more), ty("none"))}}
		whole := record("a b", flat(99+more), flat(98)) // of 198 parts, and more
		for _, c := range []struct {
			text string
			most int
			want api.Type
		}{{"true?p:q", 2, whole}, {"true?q:p", 2, whole}, {"[p,q]", 1, listType(whole)}, {"[q,p,q,[p,q][0]]", 1, listType(whole)}, {"[p]+[q]", 1, listType(whole)}, {"[q]+[p]+[q]", 1, listType(whole)}, {"[p,q][0]", 1, whole}, {"{c:true?p:q}", 1, record("c", whole)}, {"len([p,q])", 1, ty("int")}, {"(true?p:q).a==q.a", 2, ty("bool")}, {"p==q", 3, ty("bool")}, {"[p]==[q]", 3, ty("bool")}, {"[p==q,q==p]", 3, ty("[bool]")}} {
			if more <= c.most {
				checkType(t, expr(c.text), vars, c.want, api.OK)
			} else {
				checkType(t, expr(c.text), vars, api.Type{}, api.ErrDeep)
			}
		}
	}
	vars := []api.Var{{Name: "p", Type: record("a b", ty("none"), flat(198))}, {Name: "q", Type: record("a b", flat(198), ty("none"))}}
	for text, e := range map[string]api.Errno{"[p,q]": api.ErrDeep, "[p,q,p]": api.ErrDeep, "[p,q,q,p]": api.ErrDeep, "[p,q,3]": api.ErrType, "[p,q,p,{}]": api.ErrType, "[3,p,q]": api.ErrType, "[p,q]==y": api.ErrDeep, "y==[p,q]": api.ErrNone, "true?p:q": api.ErrDeep, "3?p:q": api.ErrType, "[p]+[q]": api.ErrDeep, "[p]+[3]": api.ErrDeep, "{c:p,d:q}.e": api.ErrDeep, "[p,q].c": api.ErrDeep, "!(true?p:q)": api.ErrDeep} {
		checkType(t, expr(text), vars, api.Type{}, e)
	}
	checkType(t, expr("(p==q)==true"), vars, ty("bool"), api.OK)
	checkManyJoins(t)
}

// checkManyJoins holds a list whose Kids each bring another part of what they join to.
func checkManyJoins(t *testing.T) {
	var vars []api.Var
	list := api.Expr{Kind: api.EList}
	want := flat(151)
	for i := range 150 {
		one := api.Var{Name: fmt.Sprint("v", i), Type: flat(151)}
		for k := range one.Type.Items {
			if k != i {
				one.Type.Items[k] = ty("none")
			}
		}
		vars = append(vars, one)
		list.Kids = append(list.Kids, expr(one.Name))
	}
	checkType(t, list, vars, listType(want), api.OK)
	for i := range vars {
		vars[i].Type.Items[i] = flat(49)
	}
	checkType(t, list, vars, api.Type{}, api.ErrDeep)
	vars[149].Type.Items[0] = ty("str")
	checkType(t, list, vars, api.Type{}, api.ErrType)
	vars[149].Type.Items[0] = ty("none")
	checkType(t, list, vars, api.Type{}, api.ErrDeep)
}

// rows are what the kinds ask of Kids that have no Items, and what comes: "int,int>int".
var rows = map[int]string{
	api.ENeg: "int>int float>float", api.ENot: "bool>bool", api.ELen: "str>int", api.EFloat: "int>float", api.EInt: "float>int", api.EStr: "bool>str int>str float>str str>str",
	api.EAdd: "int,int>int float,float>float str,str>str", api.ESub: "int,int>int float,float>float", api.EMul: "int,int>int float,float>float", api.EDiv: "int,int>int float,float>float", api.EMod: "int,int>int",
	api.ELess: "int,int>bool float,float>bool str,str>bool", api.ELeq: "int,int>bool float,float>bool str,str>bool", api.EAnd: "bool,bool>bool", api.EOr: "bool,bool>bool",
}

// plainRow looks for Kids' types in a kind's row.
func plainRow(kind int, kids []api.Type) (api.Type, bool) {
	var names []string
	for _, kid := range kids {
		for name, plain := range plains {
			if kid.Kind == plain {
				names = append(names, name)
			}
		}
	}
	if len(names) == len(kids) {
		for _, row := range strings.Fields(rows[kind]) {
			if asks, comes, _ := strings.Cut(row, ">"); asks == strings.Join(names, ",") {
				return ty(comes), true
			}
		}
	}
	return api.Type{}, false
}

// seekOver answers what comes over Kids of such types.
func seekOver(x api.Expr, kids []api.Type) (api.Type, api.Errno) {
	if t, is := plainRow(x.Kind, kids); is {
		return t, api.OK
	}
	all, is, ok := api.Type{Kind: api.TNone}, true, true
	join := func(list ...api.Type) {
		for _, kid := range list {
			if is {
				all, is = seekJoin(all, kid)
			}
		}
	}
	switch x.Kind {
	case api.EConst:
		all = map[int]api.Type{api.VBool: ty("bool"), api.VInt: ty("int"), api.VFloat: ty("float"), api.VStr: ty("str")}[x.V.Kind]
	case api.EEq:
		join(kids...)
		all = ty("bool")
	case api.EAdd:
		ok = kids[0].Kind == api.TList && kids[1].Kind == api.TList
		join(kids...)
	case api.EIf:
		ok = kids[0].Kind == api.TBool
		join(kids[1:]...)
	case api.EList:
		join(kids...)
		all = listType(all)
	case api.ERec:
		all = api.Type{Kind: api.TRec, Names: x.Names, Items: kids}
	case api.ELen:
		all, ok = ty("int"), kids[0].Kind == api.TList
	case api.EField:
		return seekField(kids[0], x.S)
	case api.EIndex:
		if kids[0].Kind != api.TList || kids[1].Kind != api.TInt || kids[0].Items[0].Kind == api.TNone {
			return api.Type{}, api.ErrType
		}
		all = kids[0].Items[0]
	default:
		ok = false
	}
	if !is || !ok {
		return api.Type{}, api.ErrType
	}
	if parts, depth := size(all); parts > 200 || depth > 12 {
		return api.Type{}, api.ErrDeep
	}
	return all, api.OK
}

func seekField(rec api.Type, name string) (api.Type, api.Errno) {
	if rec.Kind != api.TRec {
		return api.Type{}, api.ErrType
	}
	for i, own := range rec.Names {
		if own == name {
			return rec.Items[i], api.OK
		}
	}
	return api.Type{}, api.ErrField
}

// seek answers a right expression's type.
func seek(x api.Expr, vars map[string]api.Type) (api.Type, api.Errno) {
	if x.Kind == api.EVar {
		if t, is := vars[x.S]; is {
			return t, api.OK
		}
		return api.Type{}, api.ErrNone
	}
	var kids []api.Type
	for _, kid := range x.Kids {
		t, e := seek(kid, vars)
		if e != api.OK {
			return api.Type{}, e
		}
		kids = append(kids, t)
	}
	return seekOver(x, kids)
}

// someVars are variables of types of all sorts, by names that tell which.
func someVars() ([]api.Var, map[string]api.Type) {
	var vars []api.Var
	byName := map[string]api.Type{}
	for i, text := range []string{"bool", "int", "float", "str", "none", "[none]", "[bool]", "[int]", "[float]", "[str]", "[[none]]", "[[int]]", "[[str]]", "{}", "{a:int}", "{a:none}", "{a:str}", "{b:int}", "{a:int,b:str}", "{a:none,b:none}", "{a:[none],b:bool}", "{a:[int],b:none}", "[{a:none}]", "[{a:int}]", "{a:{b:none}}", "{a:{b:str}}"} {
		one := api.Var{Name: fmt.Sprint("v", i), Type: ty(text)}
		vars = append(vars, one)
		byName[one.Name] = one.Type
	}
	return vars, byName
}

// kidsOf tells how many Kids a kind has; those of lists and records are told where they are made.
var kidsOf = map[int]int{
	api.ENeg: 1, api.ENot: 1, api.EAdd: 2, api.ESub: 2, api.EMul: 2, api.EDiv: 2, api.EMod: 2, api.EEq: 2, api.ELess: 2, api.ELeq: 2, api.EAnd: 2, api.EOr: 2, api.EIf: 3, api.EField: 1, api.EIndex: 2, api.ELen: 1, api.EFloat: 1, api.EInt: 1, api.EStr: 1,
}

// P9.2: each kind with Kids of each type.
func TestCheckRows(t *testing.T) {
	vars, byName := someVars()
	came := map[string]int{}
	try := func(x api.Expr) {
		t.Helper()
		want, e := seek(x, byName)
		checkType(t, x, vars, want, e)
		came[fmt.Sprint(x.Kind, " ", e)]++
	}
	for kind := api.EVar; kind <= api.EStr; kind++ {
		counts := []int{kidsOf[kind]}
		if kind == api.EList || kind == api.ERec {
			counts = []int{0, 1, 2, 3}
		}
		for _, n := range counts {
			x := api.Expr{Kind: kind, Kids: make([]api.Expr, n)}
			choose(x.Kids, vars, func() {
				switch kind {
				case api.EVar:
					for _, name := range []string{"v0", "v4", "v25", "v26", "w"} {
						try(api.Expr{Kind: kind, S: name})
					}
					return
				case api.EField:
					for _, name := range []string{"a", "b", "c", "aa"} {
						x.S = name
						try(x)
					}
					return
				case api.ERec:
					x.Names = []string{"a", "b", "c"}[:n]
				}
				try(x)
			})
		}
	}
	for kind := api.ENeg; kind <= api.EStr; kind++ {
		if came[fmt.Sprint(kind, " ", api.OK)] == 0 || kind != api.ERec && came[fmt.Sprint(kind, " ", api.ErrType)] == 0 {
			t.Error("never came:", kind, came)
		}
	}
}

// choose puts each row of variables into the Kids.
func choose(kids []api.Expr, vars []api.Var, then func()) {
	if len(kids) == 0 {
		then()
		return
	}
	for _, v := range vars {
		kids[0] = api.Expr{Kind: api.EVar, S: v.Name}
		choose(kids[1:], vars, then)
	}
}

// P9.2: mixed expressions of any depth.
func TestCheckMany(t *testing.T) {
	vars, byName := someVars()
	vars = append(vars, api.Var{Name: "w1", Type: record("a b", ty("none"), flat(98))}, api.Var{Name: "w2", Type: record("a b", flat(101), ty("none"))}, api.Var{Name: "w3", Type: nested(11, ty("int"))})
	for _, v := range vars {
		byName[v.Name] = v.Type
	}
	r := rand.New(rand.NewSource(7))
	came := map[api.Errno]int{}
	for range 60000 {
		x := anyExpr(r, vars, 1+r.Intn(6))
		if !parse.Right(x) {
			continue
		}
		want, e := seek(x, byName)
		checkType(t, x, vars, want, e)
		came[e]++
	}
	for _, e := range []api.Errno{api.OK, api.ErrType, api.ErrNone, api.ErrField, api.ErrDeep} {
		if came[e] < 50 {
			t.Error("hardly ever came:", e, came)
		}
	}
}

// anyExpr answers an expression of so many within one another at most, most of them with a type.
func anyExpr(r *rand.Rand, vars []api.Var, depth int) api.Expr {
	if depth <= 1 || r.Intn(6) == 0 {
		if r.Intn(3) == 0 {
			return expr([]string{"1", "3p1", "true", `"s"`, "[]", "{}", "nan", "y"}[r.Intn(8)])
		}
		return expr(vars[r.Intn(len(vars))].Name)
	}
	kind := []int{api.EList, api.EList, api.ERec, api.ERec, api.EIf, api.EEq, api.EAdd, api.EField, api.EIndex, api.ELen, api.ENeg + r.Intn(api.EStr-api.ENeg+1)}[r.Intn(11)]
	x := api.Expr{Kind: kind}
	n := kidsOf[kind]
	switch kind {
	case api.EList:
		n = r.Intn(4)
	case api.ERec:
		n = r.Intn(4)
		x.Names = []string{"a", "b", "c"}[:n]
	case api.EField:
		x.S = []string{"a", "b"}[r.Intn(2)]
	}
	for i := range n {
		x.Kids = append(x.Kids, anyExpr(r, vars, depth-1))
		if i > 0 && r.Intn(2) == 0 { // that some join
			x.Kids[i] = x.Kids[i-1]
		}
	}
	if kind == api.EIf && r.Intn(5) > 0 {
		x.Kids[0] = expr("v0")
	}
	return x
}

// Rules 5, 7, 7a: types are new memory, what is handed in stays, and the same is answered again.
func TestCheckIsNew(t *testing.T) {
	vars, _ := someVars()
	for i := range vars {
		vars[i].Type = withRoom(vars[i].Type)
	}
	vars = append(make([]api.Var, 0, len(vars)+3), vars...)
	r := rand.New(rand.NewSource(8))
	told := func() string {
		s := fmt.Sprint(len(vars))
		for _, v := range vars[:cap(vars)] {
			s += v.Name + showRoom(v.Type)
		}
		return s
	}
	before, came := told(), 0
	for range 8000 {
		x := anyExpr(r, vars, 1+r.Intn(4))
		text, _ := parse.Text(x)
		of, e := Check(x, vars)
		if e != api.OK {
			continue
		}
		came++
		given := namesIn(x)
		for _, v := range vars {
			given = append(given, v.Type)
		}
		checkNew(t, of, given...)
		again, _ := Check(x, vars)
		checkNew(t, again, of)
		scribble(of)
		if third, _ := Check(x, vars); show(third) != show(again) {
			t.Fatalf("%s: %s, then %s", text, show(again), show(third))
		}
		if after, _ := parse.Text(x); after != text {
			t.Fatalf("%s became %s", text, after)
		}
	}
	if told() != before || came < 1000 {
		t.Error("variables became others, or hardly any type came", came)
	}
	checkNew(t, mustCheck(t, "[v18,v18]", vars))
	checkNew(t, mustCheck(t, "{a:v18,b:v18,c:[v18]}", vars))
}

// namesIn answers the lists of names within an expression, as types that hold them.
func namesIn(x api.Expr) []api.Type {
	all := []api.Type{{Names: x.Names}}
	for _, kid := range x.Kids {
		all = append(all, namesIn(kid)...)
	}
	return all
}

func mustCheck(t *testing.T, text string, vars []api.Var) api.Type {
	t.Helper()
	of, e := Check(expr(text), vars)
	if e != api.OK {
		t.Fatalf("%s: error %d", text, e)
	}
	return of
}

// scribble writes into all of an answer, its spare room too.
func scribble(t api.Type) {
	for i := range t.Names[:cap(t.Names)] {
		t.Names[:cap(t.Names)][i] = "scribbled"
	}
	for i := range t.Items[:cap(t.Items)] {
		scribble(t.Items[:cap(t.Items)][i])
		t.Items[:cap(t.Items)][i] = api.Type{Kind: 99}
	}
}

// Rule 4: nil and an empty list are one.
func TestNilIsEmpty(t *testing.T) {
	for kind := range 9 {
		bare, filled := api.Type{Kind: kind}, api.Type{Kind: kind, Names: []string{}, Items: []api.Type{}}
		for _, other := range []api.Type{bare, filled, ty("none"), ty("{}")} {
			a, ea := Join(bare, other)
			b, eb := Join(filled, other)
			if show(a) != show(b) || ea != eb || Is(bare, other) != Is(filled, other) {
				t.Error("empty lists of the kind", kind)
			}
		}
	}
	for _, x := range []api.Expr{{Kind: api.EList}, {Kind: api.ERec}} {
		want, e := Check(x, nil)
		x.Names, x.Kids = []string{}, []api.Expr{}
		checkType(t, x, []api.Var{}, want, e)
	}
}

// The tests' own: what they write types in, and join them by, is as the document says.
func TestOwnMeans(t *testing.T) {
	for text, want := range map[string]api.Type{"int": {Kind: 2}, "[none]": {Kind: 5, Items: []api.Type{{Kind: 7}}}, "{}": {Kind: 6}, "{a:[bool],b:{c:str}}": {Kind: 6, Names: []string{"a", "b"}, Items: []api.Type{{Kind: 5, Items: []api.Type{{Kind: 1}}}, {Kind: 6, Names: []string{"c"}, Items: []api.Type{{Kind: 4}}}}}} {
		if got := ty(text); show(got) != show(want) || !value.TypeRight(got) {
			t.Errorf("%s: %s", text, show(got))
		}
	}
	for _, a := range manyTypes() {
		if got := built(paths(a, "", map[string]string{}), ""); show(got) != show(a) || !value.TypeRight(a) {
			t.Errorf("%s: %s", show(a), show(got))
		}
	}
	for _, a := range wrongTypes() {
		if value.TypeRight(a) {
			t.Errorf("%s is right", show(a))
		}
	}
}
