package flow

import (
	"maps"
	"math"
	"math/rand"
	"slices"
	"testing"

	"bascule/api"
	"bascule/model"
)

func pick[T any](r *rand.Rand, from ...T) T { return from[r.Intn(len(from))] }

// anyShape answers one of them.
func anyShape(r *rand.Rand) shape {
	all := shapes()
	return all[pick(r, slices.Sorted(maps.Keys(all))...)]
}

// anyNumber reads any variables, or none.
func anyNumber(r *rand.Rand, s shape) api.Expr {
	var read []int
	for range r.Intn(4) - 1 {
		read = append(read, r.Intn(s.size))
	}
	return sum(read...)
}

// anyModel is well formed: nodes of any kinds and labels, of which the first one is a start, with any ways between them and any grants.
func anyModel(r *rand.Rand) api.Model {
	s := anyShape(r)
	m := bed(s)
	m.Grants = slices.DeleteFunc(m.Grants, func([2]int) bool { return r.Intn(3) == 0 })
	m.Nodes = append(m.Nodes, laid(s, api.NStart, r.Intn(s.size)), laid(s, api.NEnd, r.Intn(s.size)))
	for range r.Intn(12) {
		m.Nodes = append(m.Nodes, laid(s, 1+r.Intn(13), r.Intn(s.size)))
	}
	var ends []int
	for at, n := range m.Nodes {
		if n.Kind != api.NStart {
			ends = append(ends, at)
		}
	}
	for at := range m.Nodes {
		turn(r, s, &m.Nodes[at], ends)
	}
	return m
}

// turn gives a node any ways, any things to read, to set and to send, and any From.
func turn(r *rand.Rand, s shape, n *api.Node, ends []int) {
	for port := range n.Next {
		n.Next[port] = pick(r, ends...)
	}
	if n.Catch >= 0 {
		n.Catch = pick(r, ends...)
		if n.Kind != api.NUser && r.Intn(2) == 0 {
			n.Catch = -1
		}
	}
	for _, write := range places(*n) {
		write(n, anyNumber(r, s))
	}
	if n.Kind == api.NRelease {
		n.Expr, n.From = anyNumber(r, s), r.Intn(s.size)
	}
	if n.Var >= 0 {
		n.Var = r.Intn(s.size)
	}
	if n.Msg >= 0 {
		n.Msg = r.Intn(s.size)
	}
}

// mend takes most of a model's faults away, one by one; what is left is left by chance.
func mend(r *rand.Rand, m *api.Model) {
	s := shape{m.Labels, m.Order}
	for range 200 {
		faults := judged(*m)
		if len(faults) == 0 || r.Intn(60) == 0 {
			return
		}
		one := pick(r, faults...)
		if one.Rule == 1 {
			way := waysOf(*m)[one.At]
			to := &m.Nodes[way[1]]
			to.Label = s.join(m.Nodes[way[0]].Label, to.Label)
			continue
		}
		n := &m.Nodes[one.At]
		switch one.Rule {
		case 2:
			for _, write := range places(*n) {
				write(n, pick(r, sum(), sum(n.Label), sum(s.bottom(), n.Label)))
			}
		case 3:
			n.Var = pick(r, n.Label, s.top())
		case 4:
			n.Msg = n.Label
		case 5:
			n.Msg = pick(r, n.Label, s.top())
		case 6:
			n.From = s.top()
			m.Grants = append(slices.Clone(m.Grants[:min(len(m.Grants), 63)]), [2]int{n.From, n.Label})
		}
	}
}

// agree wants all answers to be those of the document's words; it tells whether the model is accepted.
func agree(t *testing.T, m api.Model) bool {
	t.Helper()
	want := judged(m)
	if got := Check(m); !slices.Equal(got, want) {
		t.Fatalf("faults %v, not %v, of %+v", got, want, m)
	}
	if Accepts(m) != (len(want) == 0) {
		t.Fatalf("accepted: %v, of %+v", Accepts(m), m)
	}
	if len(want) > 0 && want[0].Rule > 10 {
		checkRefused(t, "many", m)
		return false
	}
	s := shape{m.Labels, m.Order}
	own := []int{}
	for _, n := range m.Nodes {
		own = append(own, n.Label)
	}
	lifted, e := Lift(m)
	if e != api.OK || !slices.Equal(lifted, raised(m)) {
		t.Fatalf("lifted to %v, error %d, not %v, of %+v", lifted, e, raised(m), m)
	}
	if slices.Equal(lifted, own) != (len(want) == 0 || want[0].Rule > 1) { // P16.3, and what holds the other way round: edges alone change labels
		t.Fatalf("lifted from %v to %v with faults %v", own, lifted, want)
	}
	for _, level := range append(wrongLabels(s.size), 0, 1, 2, 3, 4, 5, 6, 7) {
		var want []int
		for at, n := range m.Nodes {
			if n.Kind == api.NRelease && s.has(level) && s.leq(n.Label, level) {
				want = append(want, at)
			}
		}
		if got := Releases(m, level); !slices.Equal(got, want) {
			t.Fatalf("releases to %d: %v, not %v, of %+v", level, got, want, m)
		}
	}
	return len(want) == 0
}

// P16.1, P16.2, P16.3: models of any nodes, as they come and mended.
func TestManyModels(t *testing.T) {
	r := rand.New(rand.NewSource(16))
	accepted, rules := 0, map[int]int{}
	for range 2500 {
		m := anyModel(r)
		agree(t, m)
		mend(r, &m)
		if agree(t, m) {
			accepted++
		}
		for _, one := range Check(m) {
			rules[one.Rule]++
		}
	}
	if accepted < 500 || len(rules) < 6 || rules[0] > 0 {
		t.Error("accepted:", accepted, "rules:", rules)
	}
}

// P16.3: lifted labels, put into the model, are lifted no more and break rule 1 nowhere.
func TestLiftedModels(t *testing.T) {
	r := rand.New(rand.NewSource(17))
	for range 1000 {
		m := anyModel(r)
		lifted, _ := Lift(m)
		for at, a := range lifted {
			m.Nodes[at].Label = a
		}
		again, e := Lift(m)
		if e != api.OK || !slices.Equal(again, lifted) || slices.ContainsFunc(Check(m), func(one api.Fault) bool { return one.Rule == 1 }) {
			t.Fatalf("%v became %v: %+v", lifted, again, m)
		}
	}
}

// P16.2: of all labels that rise along all edges and are at or above the nodes' own, those answered are at or below all others.
func TestLiftIsLeast(t *testing.T) {
	r := rand.New(rand.NewSource(18))
	for range 300 {
		m := anyModel(r)
		s := shape{m.Labels, m.Order}
		few := m.Nodes[:min(len(m.Nodes), 4)]
		for i := range few { // ways within the few
			n := laid(s, pick(r, api.NPar, api.NTask, api.NTimer), few[i].Label)
			if n.Catch >= 0 {
				n.Catch = pick(r, -1, r.Intn(len(few)))
			}
			n.Next[0] = r.Intn(len(few))
			few[i] = n
		}
		m.Nodes = append(few, laid(s, api.NStart, s.bottom()))
		m.Nodes[len(few)].Next[0] = 0
		lifted, e := Lift(m)
		if e != api.OK {
			t.Fatalf("error %d of %+v", e, m)
		}
		isLifted := false
		eachLabels(s.size, len(few), func(labels []int) {
			labels = append(labels, s.bottom())
			if !risesFrom(s, m, labels) {
				return
			}
			isLifted = isLifted || slices.Equal(labels, lifted)
			for at, a := range labels {
				if !s.leq(lifted[at], a) {
					t.Fatalf("%v isn't below %v: %+v", lifted, labels, m)
				}
			}
		})
		if !isLifted {
			t.Fatalf("%v doesn't rise: %+v", lifted, m)
		}
	}
}

// eachLabels hands out all rows of labels.
func eachLabels(size, length int, look func(labels []int)) {
	labels := make([]int, length)
	for {
		look(slices.Clone(labels))
		at := 0
		for at < length && labels[at] == size-1 {
			labels[at] = 0
			at++
		}
		if at == length {
			return
		}
		labels[at]++
	}
}

// risesFrom tells whether labels are at or above a model's own, and rise along all its ways.
func risesFrom(s shape, m api.Model, labels []int) bool {
	for at, n := range m.Nodes {
		if !s.leq(n.Label, labels[at]) {
			return false
		}
	}
	return !slices.ContainsFunc(waysOf(m), func(way [2]int) bool { return !s.leq(labels[way[0]], labels[way[1]]) })
}

// P16.3: any model whose labels are all one, and that releases nothing, is accepted.
func TestManyOfOneLabel(t *testing.T) {
	r := rand.New(rand.NewSource(19))
	for range 1000 {
		m := anyModel(r)
		a := r.Intn(m.Labels)
		releases := false
		for i := range m.Vars {
			m.Vars[i].Label, m.Msgs[i].Label = a, a
		}
		for i := range m.Nodes {
			m.Nodes[i].Label = a
			releases = releases || m.Nodes[i].Kind == api.NRelease
		}
		if !agree(t, m) && !releases {
			t.Fatalf("%v of %+v", Check(m), m)
		}
	}
}

// bent makes one number of a model another one, or takes an expression away: it may be well formed yet.
func bent(r *rand.Rand, m *api.Model) {
	number := pick(r, -2, -1, 0, 1, 2, 3, 7, 8, 14, 1001, math.MinInt, math.MaxInt)
	at := r.Intn(len(m.Nodes))
	n := &m.Nodes[at]
	one := r.Intn(m.Labels)
	pick(r,
		func() { m.Labels = number },
		func() { m.Vars[one].Label = number },
		func() { m.Vars[one].Type.Kind = number },
		func() { m.Msgs[one].Label = number },
		func() { m.Msgs[one].Body.Kind = number },
		func() { m.Grants = append(m.Grants, [2]int{number, one}) },
		func() { m.Order = append(slices.Clone(m.Order), [2]int{one, number}) },
		func() { n.Kind = number },
		func() { n.Label = number },
		func() { n.Next = append(n.Next, number) },
		func() { n.Var = number },
		func() { n.Msg = number },
		func() { n.Catch = number },
		func() { n.Wait = number },
		func() { n.From = number },
		func() { n.Expr = api.Expr{} },
		func() { n.Body = pick(r, api.Expr{}, sum(one), expr("true"), expr("v9"), api.Expr{Kind: 24}) },
		func() { n.Conds = append(n.Conds, expr("1")) },
		func() { m.Nodes = m.Nodes[at:] },
	)()
}

// P16.1, P16.2: any models of which some aren't well formed.
func TestManyWrongModels(t *testing.T) {
	r := rand.New(rand.NewSource(20))
	rules := map[int]int{}
	for range 3000 {
		m := model.Own(anyModel(r))
		for range 1 + r.Intn(3) {
			bent(r, &m)
			if m.Labels < 1 || m.Labels > len(m.Vars) || len(m.Nodes) == 0 {
				break // what is bent next is sought by them
			}
		}
		agree(t, m)
		for _, one := range Check(m) {
			rules[one.Rule]++
		}
	}
	for rule := 11; rule <= 17; rule++ {
		if rules[rule] == 0 {
			t.Error("no fault", rule)
		}
	}
}

// Rule 1: wrong inputs end, and don't panic: numbers at both ends, expressions without an end, nodes of no kind.
func TestWrongInputs(t *testing.T) {
	endless := api.Expr{Kind: api.EList, Kids: make([]api.Expr, 1)}
	endless.Kids[0] = endless
	ends := api.Type{Kind: api.TList, Items: make([]api.Type, 1)}
	ends.Items[0] = ends
	s := shapes()["two"]
	for what, bend := range map[string]func(m *api.Model){
		"an endless Expr": func(m *api.Model) { m.Nodes[tested].Expr = endless },
		"an endless Body": func(m *api.Model) { m.Nodes[tested].Body = endless },
		"an endless Cond": func(m *api.Model) { m.Nodes[tested].Conds = []api.Expr{endless} },
		"an endless type": func(m *api.Model) { m.Vars[0].Type = ends },
		"a great number":  func(m *api.Model) { m.Nodes[tested].Label = math.MaxInt },
		"a small number":  func(m *api.Model) { m.Nodes[tested].Next[0] = math.MinInt },
		"no kind":         func(m *api.Model) { m.Nodes[tested] = api.Node{} },
		"many nodes":      func(m *api.Model) { m.Nodes = slices.Repeat(m.Nodes, 30000) },
		"many variables":  func(m *api.Model) { m.Vars = slices.Repeat(m.Vars, 50000) },
	} {
		for _, kind := range []int{api.NTask, api.NChoose, api.NSend, api.NReceive, api.NRelease} {
			m := with(s, laid(s, kind, 0))
			bend(&m)
			faults := Check(m)
			if len(faults) == 0 || faults[0].Rule <= 10 || Accepts(m) {
				t.Error(what, kind, faults)
			}
			checkRefused(t, what, m)
		}
	}
}
