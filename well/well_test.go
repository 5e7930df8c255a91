package well

import (
	"fmt"
	"math"
	"slices"
	"testing"

	"bascule/api"
)

// P14.1: the chapter's examples, and models that are well formed.
func TestExamples(t *testing.T) {
	m := api.Model{Labels: 1, Nodes: []api.Node{node(api.NStart, 1), node(api.NEnd)}}
	check(t, "start, end", m)
	m.Nodes[0].Next[0] = 0
	check(t, "a start that leads to itself", m, fault(5, 0))
	check(t, "an end alone", api.Model{Labels: 1, Nodes: []api.Node{node(api.NEnd)}}, fault(7, -1))
	check(t, "the plain model", plain())
	check(t, "the full model", full())
	check(t, "the faulty model", faulty(), fault(2, 2), fault(3, 1), fault(4, 3), fault(6, 3), fault(5, 7), fault(7, -1))
}

// P14.1, rule 1: labels and orders that are no lattice, whatever else is wrong.
func TestNoLattice(t *testing.T) {
	great := faulty()
	great.Vars = make([]api.Var, 17)
	great.Nodes = nil
	for what, base := range map[string]api.Model{"plain": plain(), "full": full(), "faulty": faulty(), "too great": great, "nothing else": {}} {
		for _, labels := range []int{0, -1, 9, 10, 1 << 32, math.MinInt, math.MaxInt} {
			m := base
			m.Labels = labels
			check(t, fmt.Sprint(what, " of labels ", labels), m, fault(1, -1))
		}
		for _, order := range [][][2]int{
			nil, {{0, 1}}, {{0, 1}, {1, 2}, {2, 3}, {3, 0}}, {{0, 1}, {0, 2}, {0, 3}}, {{0, 3}, {1, 3}, {2, 3}},
			{{0, 1}, {1, 2}, {2, 3}, {0, 4}}, {{0, 1}, {1, 2}, {2, 3}, {-1, 3}}, {{0, 1}, {1, 2}, {2, 3}, {math.MinInt, 3}},
			slices.Concat([][2]int{{0, 1}, {1, 2}, {2, 3}}, slices.Repeat([][2]int{{0, 3}}, 62)),
		} {
			m := base
			m.Labels, m.Order = 4, order
			check(t, fmt.Sprint(what, " of the order ", order), m, fault(1, -1))
		}
		for _, order := range [][][2]int{{{0, 1}, {1, 2}, {2, 3}}, slices.Concat([][2]int{{0, 1}, {1, 2}, {2, 3}}, slices.Repeat([][2]int{{0, 3}}, 61))} {
			m := base
			m.Labels, m.Order = 4, order
			if got := Check(m); slices.Contains(got, fault(1, -1)) || !slices.Equal(got, judged(m)) {
				t.Error(what, "of the order", order, got)
			}
		}
	}
}

// many makes so many things, each by its number.
func many[T any](n int, thing func(i int) T) []T {
	var all []T
	for i := range n {
		all = append(all, thing(i))
	}
	return all
}

// sizes give a model so many variables, messages, grants or nodes, none of them at fault.
func sizes() map[string]func(m *api.Model, n int) {
	return map[string]func(m *api.Model, n int){
		"variables": func(m *api.Model, n int) {
			m.Vars = many(n, func(i int) api.Var {
				return api.Var{Name: fmt.Sprint("v", i), Type: typ(api.TInt), Init: num(1)}
			})
		},
		"messages": func(m *api.Model, n int) {
			m.Msgs = many(n, func(i int) api.Msg {
				return api.Msg{Name: fmt.Sprint("m", i), Key: typ(api.TInt), Body: typ(api.TInt)}
			})
		},
		"grants": func(m *api.Model, n int) {
			m.Grants = many(n, func(i int) [2]int { return [2]int{i % 2, 1} })
		},
		"nodes": func(m *api.Model, n int) {
			m.Nodes = append(plain().Nodes[:1:1], many(n-1, func(i int) api.Node { return node(api.NEnd) })...)
			if n == 1 {
				m.Nodes[0].Kind = api.NPar
				m.Nodes[0].Next[0] = 0
			}
		},
	}
}

// P14.1, rule 7: its numbers at their bounds and beyond.
func TestSizes(t *testing.T) {
	most := map[string]int{"variables": 16, "messages": 8, "grants": 64, "nodes": 40}
	for what, give := range sizes() {
		for _, n := range []int{1, 2, most[what] - 1, most[what]} {
			m := plain()
			give(&m, n)
			if what == "nodes" && n == 1 {
				check(t, "one node", m, fault(7, -1)) // that can but be no start
				continue
			}
			check(t, fmt.Sprint(n, " ", what), m)
		}
		for _, n := range []int{most[what] + 1, most[what] + 2, 2 * most[what], 300, 65536 + most[what]} {
			m := plain()
			give(&m, n)
			check(t, fmt.Sprint(n, " ", what), m, fault(7, -1))
			m = faulty()
			m.Labels, m.Order = 2, [][2]int{{1, 0}}
			give(&m, n)
			check(t, fmt.Sprint(n, " ", what, " beside other faults"), m, fault(7, -1))
		}
	}
	all := plain()
	for what, give := range sizes() {
		give(&all, most[what])
	}
	check(t, "all at their bounds", all)
	for what, give := range sizes() {
		give(&all, most[what]+1)
	}
	check(t, "all beyond their bounds", all, fault(7, -1))
}

// P14.1, rule 7: no nodes, and no start.
func TestNoStart(t *testing.T) {
	m := plain()
	for _, nodes := range [][]api.Node{nil, {}} {
		m.Nodes = nodes
		check(t, "no nodes", m, fault(7, -1))
	}
	m.Grants = [][2]int{{0, 2}}
	m.Vars = []api.Var{{Name: "a"}}
	m.Msgs = []api.Msg{{Name: "a"}}
	check(t, "no nodes, beside other faults", m, fault(2, 0), fault(3, 0), fault(4, 0), fault(7, -1)) // no number is passed
	m = plain()
	m.Nodes[0].Kind = api.NPar
	check(t, "a node of another kind in the start's place", m, fault(7, -1))
	m.Nodes[0].Kind = 0
	check(t, "a node of no kind in the start's place", m, fault(5, 0), fault(7, -1))
	m = plain()
	m.Nodes[0].Label = 2
	check(t, "a start with a fault", m, fault(5, 0))
	m = full()
	m.Nodes[firstStart].Kind = api.NPar
	check(t, "another start", m)
	m.Nodes[lastStart].Kind = api.NPar
	check(t, "no start", m, fault(7, -1))
	m.Nodes = many(40, func(int) api.Node { return api.Node{} })
	check(t, "nodes of no kind", m, append(many(40, func(i int) api.Fault { return fault(5, i) }), fault(7, -1))...)
	check(t, "labels alone", api.Model{Labels: 1}, fault(7, -1))
	check(t, "nothing", api.Model{}, fault(1, -1))
}

// names that are some, and names that are none.
var rightNames = []string{"a", "z", "a_", "x1", "n", "ll", "lens", "in", "trues", "tru", "integer", "a1_b2", rep("a", 29), rep("n", 30)}
var wrongNames = []string{"", "A", "1", "_", "_a", "1a", "aB", "a b", " a", "a ", "a-b", "a.b", "é", "a\x00", "\xff", rep("a", 31), rep("a", 200), "true", "false", "nan", "inf", "len", "float", "int", "str"}

// P14.1, rules 2, 3: names.
func TestNames(t *testing.T) {
	two := plain()
	two.Vars = many(3, func(i int) api.Var { return api.Var{Name: fmt.Sprint("v", i), Type: typ(api.TStr), Init: str("")} })
	two.Msgs = many(3, func(i int) api.Msg {
		return api.Msg{Name: fmt.Sprint("v", i), Key: typ(api.TStr), Body: typ(api.TInt)}
	})
	named := func(at int, variable, message string) api.Model {
		m := two
		m.Vars, m.Msgs = slices.Clone(m.Vars), slices.Clone(m.Msgs)
		m.Vars[at].Name, m.Msgs[at].Name = variable, message
		return m
	}
	check(t, "once in each", two)
	for at := range 3 {
		for _, name := range rightNames {
			check(t, "the name "+name, named(at, name, name))
		}
		for _, name := range wrongNames {
			check(t, "a variable's name "+name, named(at, name, "m"), fault(2, at))
			check(t, "a message's name "+name, named(at, "m", name), fault(3, at))
			check(t, "both names "+name, named(at, name, name), fault(2, at), fault(3, at))
		}
	}
	check(t, "twice among variables", named(2, "v0", "m"), fault(2, 2))
	check(t, "twice among variables, one behind the other", named(1, "v0", "m"), fault(2, 1))
	check(t, "twice among variables, the first one changed", named(0, "v2", "m"), fault(2, 2))
	check(t, "twice among messages", named(2, "m", "v0"), fault(3, 2))
	check(t, "twice among messages, the first one changed", named(0, "m", "v1"), fault(3, 1))
	m := named(1, "v0", "v0")
	m.Vars[2].Name, m.Msgs[2].Name = "v0", "v0"
	check(t, "thrice", m, fault(2, 1), fault(2, 2), fault(3, 1), fault(3, 2))
	m = named(0, "len", "A")
	m.Vars[1].Name, m.Msgs[1].Name = "len", "A"
	check(t, "what is none, twice", m, fault(2, 0), fault(2, 1), fault(3, 0), fault(3, 1))
	m = named(0, "v1", "v1")
	m.Vars[0].Label, m.Msgs[0].Label = -1, -1
	check(t, "twice, the first one being at fault itself", m, fault(2, 0), fault(2, 1), fault(3, 0), fault(3, 1))
}

// wrongLabels are none of a model with so many.
func wrongLabels(n int) []int {
	return []int{-1, -2, n, n + 1, 8, 9, 255, 256, 1 << 32, 1<<32 + 1, -1 << 32, math.MinInt, math.MaxInt}
}

// labelsOf are all labels that stand in a model, with the faults of each.
func labelsOf(m *api.Model) map[*int]api.Fault {
	all := map[*int]api.Fault{}
	for i := range m.Vars {
		all[&m.Vars[i].Label] = fault(2, i)
	}
	for i := range m.Msgs {
		all[&m.Msgs[i].Label] = fault(3, i)
	}
	for i := range m.Grants {
		all[&m.Grants[i][0]], all[&m.Grants[i][1]] = fault(4, i), fault(4, i)
	}
	for i := range m.Nodes {
		all[&m.Nodes[i].Label] = fault(5, i)
		if m.Nodes[i].Kind == api.NRelease {
			all[&m.Nodes[i].From] = fault(5, i)
		}
	}
	return all
}

// P14.1, rules 2 to 5: each label by itself.
func TestLabels(t *testing.T) {
	for labels := 4; labels <= 8; labels++ {
		m := full()
		m.Labels = labels
		m.Order = many(labels-1, func(i int) [2]int { return [2]int{i, i + 1} })
		for place, broken := range labelsOf(&m) {
			was := *place
			for label := range labels {
				*place = label
				check(t, "a label", m)
			}
			for _, label := range wrongLabels(labels) {
				*place = label
				check(t, fmt.Sprint("label ", label, " of ", labels), m, broken)
			}
			*place = was
		}
	}
}

// notGround are types that aren't ground: TNone at any depth, and what is no right type.
func notGround() []api.Type {
	none := typ(api.TNone)
	return []api.Type{
		none, listOf(none), recOf("a", none), recOf("a b", typ(api.TInt), none), recOf("a b", none, typ(api.TInt)), listOf(listOf(recOf("a b", typ(api.TStr), listOf(none)))), deepType(12, api.TNone), wideType(200, api.TNone),
		{}, typ(-1), typ(8), typ(256 + api.TInt), typ(math.MinInt), typ(math.MaxInt), typ(api.TList), listOf(api.Type{}), listOf(typ(8)), {Kind: api.TList, Items: []api.Type{typ(api.TInt), typ(api.TInt)}}, {Kind: api.TList, Names: []string{"a"}, Items: []api.Type{typ(api.TInt)}},
		{Kind: api.TInt, Names: []string{"a"}}, {Kind: api.TInt, Items: []api.Type{typ(api.TInt)}}, recOf("b a", typ(api.TInt), typ(api.TInt)), recOf("a a", typ(api.TInt), typ(api.TInt)), recOf("A", typ(api.TInt)), recOf("a", typ(api.TInt), typ(api.TInt)), recOf("a b", typ(api.TInt)), recOf(rep("a", 31), typ(api.TInt)),
		deepType(13, api.TInt), deepType(13, api.TNone), deepType(60000, api.TInt), wideType(201, api.TInt), wideType(201, api.TNone), wideType(70000, api.TInt), endlessType(api.TList), endlessType(api.TRec), endlessType(api.TInt), endlessType(0),
	}
}

// ground are types that are.
func ground() []api.Type {
	return []api.Type{
		typ(api.TBool), typ(api.TInt), typ(api.TFloat), typ(api.TStr), listOf(typ(api.TBool)), recOf(""), recOf("a", typ(api.TStr)), recOf("len nan true", typ(api.TInt), listOf(recOf("")), typ(api.TBool)), deepType(12, api.TFloat), wideType(200, api.TStr), {Kind: api.TInt, Names: []string{}, Items: []api.Type{}},
	}
}

// endlessType has itself within itself.
func endlessType(kind int) api.Type {
	t := api.Type{Kind: kind, Names: []string{"a"}, Items: make([]api.Type, 1)}
	if kind == api.TList {
		t.Names = nil
	}
	t.Items[0] = t
	return t
}

// isWhole tells whether a kind of types asks for no Items.
func isWhole(kind int) bool {
	return kind >= api.TBool && kind <= api.TStr || kind == api.TRec
}

// P14.2: Ground of any type.
func TestGround(t *testing.T) {
	for _, of := range ground() {
		if !Ground(of) || !isGround(of) {
			t.Errorf("not ground: %+v", of)
		}
	}
	for i, of := range notGround() {
		if Ground(of) || isGround(of) {
			t.Error("ground: type", i)
		}
	}
	for depth := 1; depth <= 14; depth++ {
		for kind := -1; kind <= 9; kind++ {
			of := deepType(depth, kind)
			if got, want := Ground(of), depth <= 12 && isWhole(kind); got != want {
				t.Error("types within one another:", depth, kind, got)
			}
		}
	}
	for parts := 2; parts <= 203; parts++ {
		for kind := -1; kind <= 9; kind++ {
			of := wideType(parts, kind)
			if got, want := Ground(of), parts <= 200 && isWhole(kind); got != want {
				t.Error("parts:", parts, kind, got)
			}
		}
	}
}

// someOf answers a value of a ground type.
func someOf(of api.Type) api.Value {
	v := api.Value{Kind: of.Kind, Names: of.Names}
	if of.Kind == api.TRec {
		v.Items = many(len(of.Items), func(i int) api.Value { return someOf(of.Items[i]) })
	}
	return v
}

// P14.1, rules 2, 3: types, of each variable and message by itself. No node reads the one that is changed.
func TestTypes(t *testing.T) {
	m := plain()
	m.Vars = many(3, func(i int) api.Var { return api.Var{Name: fmt.Sprint("v", i), Type: typ(api.TStr), Init: str("")} })
	m.Msgs = many(3, func(i int) api.Msg {
		return api.Msg{Name: fmt.Sprint("v", i), Key: typ(api.TStr), Body: typ(api.TInt)}
	})
	for at := range 3 {
		for _, of := range ground() {
			m.Vars[at].Type, m.Vars[at].Init, m.Msgs[at].Key, m.Msgs[at].Body = of, someOf(of), of, of
			check(t, fmt.Sprint("the type ", of), m)
		}
		m.Vars[at].Type, m.Vars[at].Init, m.Msgs[at].Key, m.Msgs[at].Body = typ(api.TBool), truth(0), typ(api.TInt), typ(api.TInt)
		check(t, "back again", m)
		for i, of := range notGround() {
			what := fmt.Sprint("type ", i, " that isn't ground, at ", at)
			m.Vars[at].Type = of
			check(t, what, m, fault(2, at))
			m.Vars[at].Init = list()
			check(t, what, m, fault(2, at))
			m.Vars[at].Type, m.Vars[at].Init = typ(api.TBool), truth(0)
			m.Msgs[at].Key = of
			check(t, what, m, fault(3, at))
			m.Msgs[at].Body = of
			check(t, what, m, fault(3, at))
			m.Msgs[at].Key = typ(api.TInt)
			check(t, what, m, fault(3, at))
			m.Msgs[at].Body = typ(api.TInt)
		}
	}
}

// P14.1, rule 2: Inits of another type, and Inits that aren't right.
func TestInits(t *testing.T) {
	inits := map[int][]api.Value{
		api.TBool:  {truth(0), truth(1)},
		api.TInt:   {num(0), num(math.MinInt64)},
		api.TFloat: {flo(0), flo(math.Copysign(0, -1)), flo(math.NaN()), flo(math.Float64frombits(0xFFF8000000000001))},
		api.TStr:   {str(""), str("\xff"), str(rep("s", 200))},
		api.TList:  {list(), list(num(1)), list(num(1), num(2)), list(slices.Repeat([]api.Value{num(1)}, 199)...)},
		api.TRec:   {rec("a b", num(1), list()), rec("a b", num(1), list(truth(0)))},
		9:          {rec("")},
		0:          {{}, truth(2), truth(-1), {Kind: 7}, {Kind: -1}, {Kind: api.VInt, F: math.Copysign(0, -1)}, {Kind: api.VInt, S: "a"}, {Kind: api.VStr, N: 1}, str(rep("s", 201)), list(num(1), truth(0)), list(truth(0)), list(list(num(1))), list(api.Value{}), list(slices.Repeat([]api.Value{num(1)}, 200)...), rec("a b", num(1), num(1)), rec("a c", num(1), list()), rec("b a", num(1), list()), rec("a", num(1)), rec("a b c", num(1), list(), num(1)), rec("a b", truth(0), list()), rec("a b", num(1), list(num(1)))},
	}
	of := map[int]api.Type{api.TBool: typ(api.TBool), api.TInt: typ(api.TInt), api.TFloat: typ(api.TFloat), api.TStr: typ(api.TStr), api.TList: listOf(typ(api.TInt)), api.TRec: recOf("a b", typ(api.TInt), listOf(typ(api.TBool))), 9: recOf("")}
	for want, of := range of {
		for is, all := range inits {
			for i, v := range all {
				m := plain()
				m.Vars = []api.Var{{Name: "a", Type: typ(api.TStr), Init: str("")}, {Name: "b", Type: of, Init: v}}
				if what := fmt.Sprint("Init ", is, ", ", i, " of the type ", want); is == want {
					check(t, what, m)
				} else {
					check(t, what, m, fault(2, 1))
				}
			}
		}
	}
}

// P14.1: faults stand in order, rule by rule and each at its number; of a variable, a message, a grant one at most.
func TestFaultsInOrder(t *testing.T) {
	m := full()
	m.Vars[6] = api.Var{Name: "len", Label: 9, Type: typ(8), Init: truth(2)}
	m.Vars[2].Label = -1
	m.Msgs[2] = api.Msg{Name: "n", Label: -1, Key: typ(0), Body: typ(api.TNone)}
	m.Msgs[1].Label = 4
	m.Grants[0], m.Grants[2] = [2]int{4, -1}, [2]int{0, 4}
	m.Nodes[20].From = 4
	m.Nodes[1].Var = 7
	faults := []api.Fault{fault(2, 2), fault(2, 6), fault(3, 1), fault(3, 2), fault(4, 0), fault(4, 2), fault(5, 1)}
	for at, n := range m.Nodes { // a variable's type isn't right, so no expression has one
		if at == 20 {
			faults = append(faults, fault(5, 20))
		} else if n.Expr.Kind != 0 && at != 1 || len(n.Conds) > 0 {
			faults = append(faults, fault(6, at))
		}
	}
	check(t, "many faults", m, faults...)
	m.Nodes[firstStart].Kind, m.Nodes[lastStart].Kind = api.NEnd, api.NPar
	faults = slices.Insert(faults, 6, fault(5, 0))
	check(t, "many faults, and no start", m, append(faults, fault(7, -1))...)
}

// P14.2: a model's lattice is that of its labels and its order, whatever else it has.
func TestLattice(t *testing.T) {
	for what, base := range map[string]api.Model{"plain": plain(), "full": full(), "faulty": faulty(), "nothing else": {}} {
		base.Labels, base.Order = 4, [][2]int{{0, 1}, {0, 2}, {1, 3}, {2, 3}}
		l, e := Lattice(base)
		join, _ := l.Join(1, 2)
		meet, _ := l.Meet(1, 2)
		if e != api.OK || l.Size() != 4 || join != 3 || meet != 0 || l.Leq(1, 2) || !slices.Equal(l.Below(1), []int{0, 1}) {
			t.Error(what, e)
		}
		base.Order[1][0] = 3 // nor is what was handed in kept
		if l.Leq(3, 2) || !l.Leq(0, 2) {
			t.Error(what, "another lattice")
		}
		base.Order[1][0] = 0
		for _, wrong := range []struct {
			labels int
			order  [][2]int
			e      api.Errno
		}{
			{0, nil, api.ErrArg}, {-1, nil, api.ErrArg}, {9, nil, api.ErrArg}, {math.MaxInt, nil, api.ErrArg}, {1, [][2]int{{0, 1}}, api.ErrArg}, {2, [][2]int{{0, 1}, {-1, 1}}, api.ErrArg}, {2, slices.Repeat([][2]int{{0, 1}}, 65), api.ErrArg},
			{2, nil, api.ErrLattice}, {2, [][2]int{{0, 1}, {1, 0}}, api.ErrLattice}, {4, base.Order[:3], api.ErrLattice}, {4, slices.Repeat(base.Order[:3], 17), api.ErrLattice},
		} {
			base.Labels, base.Order = wrong.labels, wrong.order
			if l, e := Lattice(base); l != nil || e != wrong.e {
				t.Error(what, wrong, l, e)
			}
		}
		base.Labels, base.Order = 1, nil
		if l, e := Lattice(base); e != api.OK || l.Size() != 1 {
			t.Error(what, "one label", e)
		}
		base.Labels, base.Order = 2, slices.Repeat([][2]int{{1, 0}}, 64)
		if l, e := Lattice(base); e != api.OK || l.Bottom() != 1 {
			t.Error(what, "64 pairs", e)
		}
	}
}
