package well

import (
	"fmt"
	"math"
	"reflect"
	"slices"
	"testing"

	"bascule/api"
)

// fullEnd is a node of the full model that any way may lead to.
const fullEnd = 21

// far are numbers beyond all bounds.
var far = []int{-2, -3, -1000, math.MinInt32, math.MinInt, math.MaxInt, math.MaxInt32, 1 << 32, 1<<32 + 1, 1<<32 - 1, 256, 257}

// checkLike wants the faults that the document's words tell, and of other nodes none.
func checkLike(t *testing.T, what string, m api.Model, at int) (broken bool) {
	t.Helper()
	want := judged(m)
	if got := Check(m); !slices.Equal(got, want) {
		t.Errorf("%s at %d: faults %v, not %v", what, at, got, want)
	}
	for _, f := range want {
		if f.Rule < 5 || f.Rule > 6 || f.At != at {
			t.Errorf("%s at %d: faults %v", what, at, want)
		}
	}
	return len(want) > 0
}

// withNode answers the full model with a node of it changed.
func withNode(at int, change func(n *api.Node)) api.Model {
	m := full()
	change(&m.Nodes[at])
	return m
}

// P14.1, rule 5: how many of Next.
func TestNext(t *testing.T) {
	may := map[int][]int{api.NStart: {1}, api.NEnd: {0}, api.NTask: {1}, api.NPar: {1, 2, 3, 4, 5, 6}, api.NUser: {1}, api.NTimer: {1}, api.NReceive: {1}, api.NSend: {1}, api.NEvent: {2}, api.NRelease: {1}, api.NStop: {0}}
	for at, n := range full().Nodes {
		for _, count := range []int{0, 1, 2, 3, 4, 5, 6, 7, 8, 41, 64, 100000} {
			m := withNode(at, func(n *api.Node) { n.Next = slices.Repeat([]int{fullEnd}, count) })
			rule := 5
			if slices.Contains(may[n.Kind], count) || (n.Kind == api.NChoose || n.Kind == api.NSome) && count == len(n.Conds)+1 {
				rule = 0
			}
			checkNode(t, fmt.Sprint(count, " of Next, kind ", n.Kind), m, at, rule)
		}
	}
}

// P14.1, rule 5: how many Conds, alone and with one more of Next.
func TestConds(t *testing.T) {
	for at, n := range full().Nodes {
		chooses := n.Kind == api.NChoose || n.Kind == api.NSome
		for _, count := range []int{0, 1, 2, 3, 4, 5, 6, 7, 8, 41, 64, 100000} {
			conds := func(n *api.Node) { n.Conds = slices.Repeat(exprs("yes"), count) }
			rule := 5
			if chooses && count == len(n.Conds) || !chooses && count == 0 {
				rule = 0
			}
			checkNode(t, fmt.Sprint(count, " Conds, kind ", n.Kind), withNode(at, conds), at, rule)
			if !chooses {
				continue
			}
			both := func(n *api.Node) {
				conds(n)
				n.Next = slices.Repeat([]int{fullEnd}, count+1)
			}
			rule = 5
			if count >= 1 && count <= 5 {
				rule = 0
			}
			checkNode(t, fmt.Sprint(count, " Conds, and one more of Next"), withNode(at, both), at, rule)
		}
	}
}

// someExprs are of Kind 0 with something else in them.
func someExprs() []api.Expr {
	return []api.Expr{
		{S: "n"}, {S: "\x00"}, {Names: []string{""}}, {Names: []string{"a"}}, {Kids: make([]api.Expr, 1)}, {Kids: exprs("n")}, {Kids: endlessExpr(0).Kids},
		{V: api.Value{Kind: api.VInt}}, {V: api.Value{Kind: -1}}, {V: api.Value{N: 1}}, {V: api.Value{N: -1}}, {V: api.Value{S: "a"}}, {V: api.Value{Names: []string{""}}}, {V: api.Value{Items: make([]api.Value, 1)}},
		{V: flo(0)}, {V: api.Value{F: 1}}, {V: api.Value{F: math.Copysign(0, -1)}}, {V: api.Value{F: math.NaN()}}, {V: api.Value{F: math.Inf(-1)}}, {V: api.Value{F: math.SmallestNonzeroFloat64}},
	}
}

// endlessExpr has itself within itself.
func endlessExpr(kind int) api.Expr {
	x := api.Expr{Kind: kind, Kids: make([]api.Expr, 2)}
	x.Kids[0], x.Kids[1] = x, x
	return x
}

// P14.1, rule 5: Expr and Body, there and not there.
func TestExprAndBody(t *testing.T) {
	nothings := []api.Expr{{}, {Names: []string{}, Kids: []api.Expr{}}, {V: api.Value{Names: make([]string, 0, 2), Items: make([]api.Value, 0, 2)}, Kids: make([]api.Expr, 0, 2)}}
	for at, n := range full().Nodes {
		fields := map[string]func(n *api.Node) *api.Expr{"Expr": func(n *api.Node) *api.Expr { return &n.Expr }, "Body": func(n *api.Node) *api.Expr { return &n.Body }}
		for name, field := range fields {
			asked := slices.Contains([]int{api.NSend, api.NRelease}, n.Kind) || name == "Expr" && slices.Contains([]int{api.NTask, api.NReceive, api.NEvent}, n.Kind)
			for _, x := range nothings {
				rule := 0
				if asked {
					rule = 5
				}
				checkNode(t, fmt.Sprint("no ", name, ", kind ", n.Kind), withNode(at, func(n *api.Node) { *field(n) = x }), at, rule)
			}
			for i, x := range someExprs() {
				checkNode(t, fmt.Sprint(name, " of Kind 0 with something, ", i, ", kind ", n.Kind), withNode(at, func(n *api.Node) { *field(n) = x }), at, 5)
			}
			for _, x := range append(exprs("n", "true", "[]", "{}", "0"), api.Expr{Kind: -1}, api.Expr{Kind: 24}, api.Expr{Kind: math.MinInt}, endlessExpr(api.EAdd)) {
				if m := withNode(at, func(n *api.Node) { *field(n) = x }); !asked {
					checkNode(t, fmt.Sprint(name, " there, kind ", n.Kind), m, at, 5)
				} else if x.Kind < 1 || x.Kind > 23 || len(x.Kids) > 0 { // there, but no right one
					checkNode(t, fmt.Sprint(name, " that isn't right, kind ", n.Kind), m, at, 6)
				}
			}
		}
	}
}

// P14.1, rule 5: Var, Msg, Catch, Wait, From and Label, each by itself.
func TestNumbers(t *testing.T) {
	vars, msgs, nodes := len(full().Vars), len(full().Msgs), len(full().Nodes)
	columns := map[string]func(n *api.Node) *int{
		"Var": func(n *api.Node) *int { return &n.Var }, "Msg": func(n *api.Node) *int { return &n.Msg }, "Catch": func(n *api.Node) *int { return &n.Catch },
		"Wait": func(n *api.Node) *int { return &n.Wait }, "From": func(n *api.Node) *int { return &n.From }, "Label": func(n *api.Node) *int { return &n.Label },
	}
	numbers := append([]int{-1, 0, 1, 2, 3, 4, 5, 6, 7, vars - 1, vars, msgs - 1, msgs, nodes - 1, nodes, nodes + 1, 39, 40, 999, 1000, 1001, 1002}, far...)
	refused, accepted := map[string]int{}, map[string]int{}
	for at, n := range full().Nodes {
		for name, column := range columns {
			for _, number := range numbers {
				what := fmt.Sprint(name, " ", number, ", kind ", n.Kind)
				if checkLike(t, what, withNode(at, func(n *api.Node) { *column(n) = number }), at) {
					refused[name]++
				} else {
					accepted[name]++
				}
			}
		}
	}
	for name := range columns {
		if refused[name] < 25*len(far) || accepted[name] < 25 {
			t.Error("hardly ever came:", name, refused, accepted)
		}
	}
}

// P14.1, rule 5: variables and messages, by kinds, in words of their own.
func TestVarAndMsg(t *testing.T) {
	hasVar := []int{api.NTask, api.NUser, api.NReceive, api.NEvent, api.NRelease}
	hasMsg := []int{api.NReceive, api.NSend, api.NEvent}
	for at, n := range full().Nodes {
		for _, number := range append([]int{-1, 7, 8}, far...) {
			rule := 5
			if number == -1 && !slices.Contains(hasVar, n.Kind) {
				rule = 0
			}
			checkNode(t, fmt.Sprint("Var ", number, ", kind ", n.Kind), withNode(at, func(n *api.Node) { n.Var = number }), at, rule)
			rule = 5
			if number == -1 && !slices.Contains(hasMsg, n.Kind) {
				rule = 0
			}
			checkNode(t, fmt.Sprint("Msg ", number, ", kind ", n.Kind), withNode(at, func(n *api.Node) { n.Msg = number }), at, rule)
		}
		for _, number := range []int{0, 2} {
			if !slices.Contains(hasMsg, n.Kind) {
				checkNode(t, fmt.Sprint("Msg ", number, ", kind ", n.Kind), withNode(at, func(n *api.Node) { n.Msg = number }), at, 5)
			}
			if !slices.Contains(hasVar, n.Kind) {
				checkNode(t, fmt.Sprint("Var ", number, ", kind ", n.Kind), withNode(at, func(n *api.Node) { n.Var = number }), at, 5)
			}
		}
		if n.Kind == api.NUser { // of any type
			for number := range 7 {
				checkNode(t, fmt.Sprint("Var ", number, " of a user"), withNode(at, func(n *api.Node) { n.Var = number }), at, 0)
			}
		}
	}
	m := plain() // there are none
	m.Nodes = append(m.Nodes, node(api.NUser, 1))
	for _, number := range []int{-1, 0, 1} {
		m.Nodes[2].Var = number
		check(t, "a user without variables", m, fault(5, 2))
	}
}

// P14.1, rule 5: Wait, by kinds, with Catch and without.
func TestWait(t *testing.T) {
	for at, n := range full().Nodes {
		for _, wait := range append([]int{-1, 0, 1, 2, 999, 1000, 1001}, far...) {
			for _, catch := range []int{-1, fullEnd} {
				mayCatch := slices.Contains([]int{api.NTask, api.NChoose, api.NSome, api.NReceive, api.NSend, api.NEvent}, n.Kind)
				right := wait == 0 && (mayCatch || catch == -1)
				switch n.Kind {
				case api.NUser:
					right = wait == 0 && catch == -1 || wait >= 1 && wait <= 1000 && catch >= 0
				case api.NTimer:
					right = wait >= 1 && wait <= 1000 && catch == -1
				case api.NEvent:
					right = wait >= 1 && wait <= 1000
				}
				m := withNode(at, func(n *api.Node) { n.Wait, n.Catch = wait, catch })
				checkNode(t, fmt.Sprint("Wait ", wait, ", Catch ", catch, ", kind ", n.Kind), m, at, map[bool]int{true: 0, false: 5}[right])
			}
		}
	}
}

// P14.1, rule 5: From of a release is a label, of others 0.
func TestFrom(t *testing.T) {
	for at, n := range full().Nodes {
		for _, from := range append([]int{-1, 0, 1, 2, 3, 4, 5}, far...) {
			right := from == 0 || n.Kind == api.NRelease && from >= 0 && from < 4
			m := withNode(at, func(n *api.Node) { n.From = from })
			checkNode(t, fmt.Sprint("From ", from, ", kind ", n.Kind), m, at, map[bool]int{true: 0, false: 5}[right])
		}
	}
}

// P14.1, rule 5: ways, and Catch, to each node, to starts, to the node itself, and to none.
func TestWays(t *testing.T) {
	for at, n := range full().Nodes {
		var targets []int
		for to := -1; to <= len(full().Nodes)+1; to++ {
			targets = append(targets, to)
		}
		for _, to := range append(targets, far...) {
			right := to > firstStart && to < lastStart
			rule := map[bool]int{true: 0, false: 5}[right]
			for way := range n.Next {
				m := withNode(at, func(n *api.Node) { n.Next[way] = to })
				checkNode(t, fmt.Sprint("way ", way, " to ", to, ", kind ", n.Kind), m, at, rule)
			}
			mayCatch := slices.Contains([]int{api.NTask, api.NChoose, api.NSome, api.NReceive, api.NSend, api.NEvent}, n.Kind)
			switch {
			case to == -1 && (mayCatch || n.Kind != api.NUser || n.Wait == 0):
				rule = 0
			case !mayCatch && (n.Kind != api.NUser || n.Wait == 0):
				rule = 5
			}
			m := withNode(at, func(n *api.Node) { n.Catch = to })
			checkNode(t, fmt.Sprint("Catch to ", to, ", kind ", n.Kind), m, at, rule)
		}
	}
	m := plain() // nor is a start led to that comes behind, or that has a fault
	m.Nodes = []api.Node{node(api.NPar, 1), node(api.NStart, 2), node(api.NEnd)}
	check(t, "a later start", m, fault(5, 0))
	m.Nodes[1].Label = -1
	check(t, "a later start with a fault", m, fault(5, 0), fault(5, 1))
	m.Nodes[0].Next[0], m.Nodes[2].Kind = 2, 14
	check(t, "a node of no kind is led to", m, fault(5, 1), fault(5, 2))
}

// P14.1, rule 5: kinds that are none.
func TestKinds(t *testing.T) {
	for at := range full().Nodes {
		for _, kind := range append([]int{0, 14, 15, -1, -12, 256 + api.NPar, 1<<32 + api.NEnd}, far...) {
			m := withNode(at, func(n *api.Node) { n.Kind = kind })
			check(t, fmt.Sprint("kind ", kind), m, fault(5, at))
			m = withNode(at, func(n *api.Node) { *n = api.Node{Kind: kind} })
			check(t, fmt.Sprint("kind ", kind, " alone"), m, fault(5, at))
			m = withNode(at, func(n *api.Node) { *n = node(kind, fullEnd) })
			check(t, fmt.Sprint("kind ", kind, " with one way"), m, fault(5, at))
		}
		for kind := api.NStart; kind <= api.NStop; kind++ { // what one kind has in the place of what another one has
			m := withNode(at, func(n *api.Node) { n.Kind = kind })
			if want := judged(m); !slices.Equal(Check(m), want) {
				t.Error("kind", kind, "at", at, "faults", Check(m), "not", want)
			}
		}
	}
}

// P14.1: a node against rules 5 and 6 at once is told once, of rule 5.
func TestFiveAheadOfSix(t *testing.T) {
	ill := expr("len(yes)")
	for at, n := range full().Nodes {
		m := full()
		changed := 0
		for _, x := range []*api.Expr{&m.Nodes[at].Expr, &m.Nodes[at].Body} {
			if x.Kind != 0 {
				*x = ill
				changed++
			}
		}
		for i := range n.Conds {
			m.Nodes[at].Conds[i] = ill
			changed++
		}
		if changed == 0 {
			continue
		}
		check(t, "expressions without types", m, fault(6, at))
		for name, spoil := range map[string]func(n *api.Node){
			"Label": func(n *api.Node) { n.Label = 4 }, "Next": func(n *api.Node) { n.Next = nil }, "a way": func(n *api.Node) { n.Next[0] = firstStart }, "From": func(n *api.Node) { n.From = -1 },
			"Catch": func(n *api.Node) { n.Catch = -2 }, "Var": func(n *api.Node) { n.Var = -2 }, "Msg": func(n *api.Node) { n.Msg = -2 }, "Wait": func(n *api.Node) { n.Wait = -1 }, "Kind": func(n *api.Node) { n.Kind = 0 },
		} {
			spoilt := m
			spoilt.Nodes = slices.Clone(m.Nodes)
			spoilt.Nodes[at].Next = slices.Clone(n.Next)
			spoil(&spoilt.Nodes[at])
			check(t, name+" and expressions without types", spoilt, fault(5, at))
		}
	}
}

// intsOf are all numbers that stand in anything.
func intsOf(v reflect.Value) []reflect.Value {
	var all []reflect.Value
	switch v.Kind() {
	case reflect.Int, reflect.Int64:
		return []reflect.Value{v}
	case reflect.Struct:
		for i := range v.NumField() {
			all = append(all, intsOf(v.Field(i))...)
		}
	case reflect.Slice, reflect.Array:
		for i := range v.Len() {
			all = append(all, intsOf(v.Index(i))...)
		}
	}
	return all
}

// P14.1: each number in a model, in its types, values and expressions too, by itself.
func TestAnyNumber(t *testing.T) {
	m := full()
	came := map[int]int{}
	for i, n := range intsOf(reflect.ValueOf(&m).Elem()) {
		was := n.Int()
		for _, number := range []int64{was - 1, was + 1, 0, 1, 7, -1, math.MinInt64, math.MaxInt64, was + 256, was + 1<<32} {
			n.SetInt(number)
			got, want := Check(m), judged(m)
			if !slices.Equal(got, want) {
				t.Fatal("number", i, "set to", number, "faults", got, "not", want)
			}
			for _, f := range got {
				came[f.Rule]++
			}
			came[0] += 1 - min(1, len(got))
		}
		n.SetInt(was)
	}
	for rule := range 7 {
		if came[rule] < 30 {
			t.Error("hardly ever came:", rule, came)
		}
	}
	check(t, "all set back", m)
}
