package flow

import (
	"fmt"
	"slices"
	"testing"

	"bascule/api"
	"bascule/model"
)

// P16.1: the chapter's examples.
func TestExamples(t *testing.T) {
	two := shapes()["two"]
	n := laid(two, api.NTask, 0)
	n.Expr = expr(name(1))
	check(t, "a task at 0 that reads a variable of 1", with(two, n), fault(2, tested))
	m := with(two, laid(two, api.NTask, 1))
	m.Nodes[end].Label = 0
	m.Nodes[tested].Catch = -1
	check(t, "an edge from a node at 1 to one at 0", m, fault(1, 1))
	n = laid(two, api.NRelease, 0)
	n.From = 1
	m = with(two, n)
	m.Grants = nil
	check(t, "a release at 0 from 1 without a grant", m, fault(6, tested))
	m.Grants = [][2]int{{1, 0}}
	check(t, "a release at 0 from 1 with a grant", m)
}

// P16.1: in the bed each kind of nodes breaks nothing, at each label.
func TestEachKindIsAccepted(t *testing.T) {
	for what, s := range shapes() {
		for _, kind := range allKinds() {
			for a := range s.size {
				check(t, fmt.Sprint(what, ", kind ", kind, " at ", a), with(s, laid(s, kind, a)))
			}
		}
	}
}

// P16.1, rule 1: an edge between any two labels, by each port of each kind.
func TestEdges(t *testing.T) {
	lies := map[string]int{}
	for what, s := range shapes() {
		for _, kind := range allKinds() {
			for _, pair := range s.pairs() {
				m := with(s, laid(s, kind, pair[0]))
				m.Nodes = append(m.Nodes, laid(s, api.NEnd, pair[1]))
				for port := range len(waysOf(m)) - 1 { // the start's edge is ahead of them
					bent := model.Own(m)
					lead(&bent.Nodes[tested], port, end+1)
					var want []api.Fault
					if !s.leq(pair[0], pair[1]) {
						want = []api.Fault{fault(1, 1+port)}
					}
					check(t, fmt.Sprint(what, ", kind ", kind, ", port ", port, " between ", pair), bent, want...)
					lies[s.between(pair[1], pair[0])]++
				}
			}
		}
	}
	wantAll(t, lies)
}

// lead turns one of a node's ways to another node.
func lead(n *api.Node, port, to int) {
	if port == len(n.Next) {
		n.Catch = to
		return
	}
	n.Next[port] = to
}

// wantAll wants labels to have lain to one another in each way.
func wantAll(t *testing.T, lies map[string]int) {
	t.Helper()
	for _, how := range []string{"below", "at", "above", "beside"} {
		if lies[how] == 0 {
			t.Error("no two labels lay so:", how)
		}
	}
}

// P16.1, rule 1: each edge has its number, as often as it stands, and its faults are ahead of all those of nodes.
func TestEdgesInOrder(t *testing.T) {
	s := shapes()["diamond"]
	m := bed(s)
	m.Grants = nil
	m.Nodes = []api.Node{
		laid(s, api.NStart, 3), // edge 0
		laid(s, api.NSome, 1),  // edges 1 to 4, and 5 of Catch
		laid(s, api.NPar, 2),   // edges 6 to 8
		laid(s, api.NTask, 0),  // edges 9, and 10 of Catch
		laid(s, api.NEnd, 0),
		laid(s, api.NEnd, 3),
		laid(s, api.NRelease, 2), // edge 11
		laid(s, api.NStart, 0),   // edge 12
	}
	m.Nodes[0].Next = []int{2}
	m.Nodes[1].Next, m.Nodes[1].Catch = []int{4, 5, 4, 1}, 3
	m.Nodes[2].Next = []int{1, 2, 1}
	m.Nodes[3].Next, m.Nodes[3].Catch = []int{6}, 3
	m.Nodes[6].Next = []int{2}
	m.Nodes[7].Next = []int{1}
	edges := []api.Fault{fault(1, 0), fault(1, 1), fault(1, 3), fault(1, 5), fault(1, 6), fault(1, 8)}
	check(t, "edges, and a release", m, append(edges, fault(6, 6))...)
	m.Nodes[1].Conds = exprs("v0==1", "v2==1", "v1==1")
	m.Nodes[3].Expr = expr("v3")
	edges = append(edges, fault(2, 1), fault(2, 3), fault(6, 6))
	check(t, "edges, what is read, and a release", m, edges...)
	m.Nodes[3].Catch = -1 // numbers behind it move
	m.Nodes[6].Next = []int{4}
	edges = slices.Insert(edges, 6, fault(1, 10))
	check(t, "without a Catch", m, edges...)
}

// P16.1, rule 1: a node that leads to itself, and a start that lies above what it leads to.
func TestEdgesToItself(t *testing.T) {
	for what, s := range shapes() {
		for a := range s.size {
			n := laid(s, api.NTask, a)
			n.Next[0], n.Catch = tested, tested
			check(t, what, with(s, n))
			m := with(s, laid(s, api.NTask, s.bottom()))
			m.Nodes[start].Label = a
			if a == s.bottom() {
				check(t, what, m)
				continue
			}
			check(t, what, m, fault(1, 0))
		}
	}
}

// sum reads variables of labels; of none it is a number.
func sum(labels ...int) api.Expr {
	text := "1"
	for _, a := range labels {
		text += "+" + name(a)
	}
	return expr(text)
}

// P16.1, rule 2: what is read at each place of each kind, of any two labels: nothing, one, both.
func TestReads(t *testing.T) {
	lies := map[string]int{}
	for what, s := range shapes() {
		for _, kind := range allKinds() {
			for a := range s.size {
				n := laid(s, kind, a)
				for place, write := range places(n) {
					for _, pair := range s.pairs() {
						for many := range 3 {
							read := pair[:many]
							broken := slices.ContainsFunc(read, func(b int) bool { return !s.leq(b, a) })
							bent := n
							write(&bent, sum(read...))
							checkOne(t, fmt.Sprint(what, ", kind ", kind, " at ", a, ", ", place, " reads ", read), with(s, bent), 2, broken)
							if many == 1 {
								lies[s.between(read[0], a)]++
							}
						}
					}
				}
			}
		}
	}
	wantAll(t, lies)
}

// P16.1, rule 2: of several variables the join counts: it is at or below a label just if each of them is, so one that isn't breaks it, and nothing else does.
func TestReadsJoined(t *testing.T) {
	s := shapes()["cube"]
	for a := range s.size {
		for set := range 1 << s.size {
			var read []int
			for b := range s.size {
				if set>>b&1 != 0 {
					read = append(read, b)
				}
			}
			n := laid(s, api.NTask, a)
			n.Expr = sum(read...)
			checkOne(t, fmt.Sprint("at ", a, ", read ", read), with(s, n), 2, s.join(read...)&^a != 0)
		}
	}
}

// P16.1, rule 2: however many expressions of a node read too high, it is one fault; and each one alone is enough.
func TestReadsOfSeveral(t *testing.T) {
	s := shapes()["diamond"]
	for _, kind := range allKinds() {
		n := laid(s, kind, 1)
		if len(places(n)) == 0 {
			continue
		}
		for _, b := range []int{0, 1, 2, 3} {
			all := n
			for _, write := range places(n) {
				write(&all, sum(b))
			}
			checkOne(t, fmt.Sprint("kind ", kind, " reads everywhere ", b), with(s, all), 2, b > 1)
		}
	}
	for last := range 5 {
		n := laid(s, api.NChoose, 2)
		n.Conds = exprs("v0==1", "v2==1", "true", "v2<v0", "v0+v2==3")
		n.Next = slices.Repeat([]int{end}, 6)
		check(t, "five conditions", with(s, n))
		n.Conds[last] = expr("v2==v1")
		check(t, fmt.Sprint("the condition ", last), with(s, n), fault(2, tested))
	}
}

// P16.1, rule 2: a variable counts wherever it stands, come to or not.
func TestReadsInside(t *testing.T) {
	s := shapes()["two"]
	for text, broken := range map[string]bool{
		"v0": false, "v1": true, "-v1": true, "[v1][0]": true, "[1,2,3][v1]": true, "{a:v1,b:1}.b": true, "len(str(v1))": true, "int(float(v1))": true,
		"true?1:v1": true, "false?v1:1": true, "true||v1==1?1:2": true, "false&&v1==1?1:2": true, "v1-v1": true, "v1*0": true, "len([v1])": true,
		`len("v1")`: false, "{v1:1}.v1": false, "v0+v0*v0": false, "v0==0?v0:-v0": false, "1+(2*(3-(4-(5+v1))))": true,
	} {
		n := laid(s, api.NTask, 0)
		n.Expr = expr(text)
		checkOne(t, text, with(s, n), 2, broken)
		n = laid(s, api.NTask, 1)
		n.Expr = expr(text)
		check(t, text+" at 1", with(s, n))
	}
	n := laid(s, api.NTask, 0)
	for last := range 3 {
		kids := slices.Repeat([]api.Expr{expr("1")}, 198)
		kids[last*98+1] = expr("v1")
		n.Expr = api.Expr{Kind: api.ELen, Kids: []api.Expr{{Kind: api.EList, Kids: kids}}}
		check(t, fmt.Sprint("far along a list: ", last), with(s, n), fault(2, tested))
	}
}

// P16.1, rule 3: who sets a variable, of any label at any label.
func TestSets(t *testing.T) {
	lies := map[string]int{}
	for what, s := range shapes() {
		for _, kind := range allKinds() {
			for _, pair := range s.pairs() {
				n := laid(s, kind, pair[0])
				if n.Var < 0 {
					continue
				}
				n.Var = pair[1]
				checkOne(t, fmt.Sprint(what, ", kind ", kind, " sets ", pair), with(s, n), 3, !s.leq(pair[0], pair[1]))
				lies[s.between(pair[1], pair[0])]++
				if kind == api.NUser {
					n.Wait, n.Catch = 0, -1
					checkOne(t, fmt.Sprint(what, ", one that isn't interrupted sets ", pair), with(s, n), 3, !s.leq(pair[0], pair[1]))
				}
			}
		}
	}
	wantAll(t, lies)
}

// P16.1, rules 4, 5: messages of any label at any label: what is awaited has just the node's.
func TestMessages(t *testing.T) {
	lies := map[string]int{}
	for what, s := range shapes() {
		for _, pair := range s.pairs() {
			for _, kind := range []int{api.NReceive, api.NEvent} {
				n := laid(s, kind, pair[0])
				n.Msg = pair[1]
				checkOne(t, fmt.Sprint(what, ", kind ", kind, " awaits ", pair), with(s, n), 4, pair[0] != pair[1])
			}
			n := laid(s, api.NSend, pair[0])
			n.Msg = pair[1]
			checkOne(t, fmt.Sprint(what, ", sent ", pair), with(s, n), 5, !s.leq(pair[0], pair[1]))
			lies[s.between(pair[1], pair[0])]++
		}
	}
	wantAll(t, lies)
}

// P16.1, rule 6: what a release reads, of any labels, with its From at any label: it is at or below that, wherever the release is, and no fault of rule 2.
func TestReleaseReads(t *testing.T) {
	lies := map[string]int{}
	for what, s := range shapes() {
		for a := range s.size {
			for from := range s.size {
				n := laid(s, api.NRelease, a)
				n.From = from
				check(t, fmt.Sprint(what, " at ", a, " from ", from), with(s, n))
				for _, pair := range s.pairs() {
					n.Expr = sum(pair[:]...)
					broken := !s.leq(pair[0], from) || !s.leq(pair[1], from)
					checkOne(t, fmt.Sprint(what, " at ", a, " from ", from, " of ", pair), with(s, n), 6, broken)
				}
				lies[s.between(from, a)]++
			}
		}
	}
	wantAll(t, lies)
}

// P16.1, rule 6: the pair of From and the label itself is a grant: not the other way round, and not by others.
func TestGrants(t *testing.T) {
	for what, s := range shapes() {
		for a := range s.size {
			for from := range s.size {
				pair, turned := [2]int{from, a}, [2]int{a, from}
				others := slices.DeleteFunc(s.pairs(), func(other [2]int) bool { return other == pair })
				for _, grants := range [][][2]int{nil, {pair}, {turned}, {turned, pair}, {pair, pair}, others, append(slices.Clone(others), pair), slices.Repeat([][2]int{turned}, 64), append(slices.Repeat([][2]int{turned}, 63), pair)} {
					granted := slices.Contains(grants, pair)
					for read := range s.size {
						n := laid(s, api.NRelease, a)
						n.From, n.Expr = from, sum(read)
						m := with(s, n)
						m.Grants = grants
						checkOne(t, fmt.Sprint(what, " at ", a, " from ", from, " of ", read, " with ", grants), m, 6, !granted || !s.leq(read, from))
					}
				}
			}
		}
	}
}

// P16.1, rule 6: other kinds need no grants.
func TestNoGrants(t *testing.T) {
	for what, s := range shapes() {
		for _, kind := range allKinds() {
			for a := range s.size {
				m := with(s, laid(s, kind, a))
				m.Grants = nil
				checkOne(t, fmt.Sprint(what, ", kind ", kind, " at ", a), m, 6, kind == api.NRelease)
			}
		}
	}
}

// P16.1: a node that breaks several rules has their faults in order, ahead of those of the next node.
func TestRulesInOrder(t *testing.T) {
	s := shapes()["diamond"]
	m := bed(s)
	m.Grants = [][2]int{{1, 2}}
	m.Nodes = []api.Node{laid(s, api.NStart, 0)}
	want := []api.Fault{}
	for range 2 {
		for _, kind := range allKinds() {
			at := len(m.Nodes)
			n := laid(s, kind, 1)
			n.Var, n.Msg = min(n.Var, 2), min(n.Msg, 2)
			for _, write := range places(n) {
				write(&n, sum(2, 0))
			}
			switch kind {
			case api.NTask:
				want = append(want, fault(2, at), fault(3, at))
			case api.NChoose, api.NSome:
				want = append(want, fault(2, at))
			case api.NUser:
				want = append(want, fault(3, at))
			case api.NReceive, api.NEvent:
				n.Msg = 2
				want = append(want, fault(2, at), fault(3, at), fault(4, at))
			case api.NSend:
				want = append(want, fault(2, at), fault(5, at))
			case api.NRelease:
				n.From, n.Expr = 2, sum(3)
				want = append(want, fault(3, at), fault(6, at))
			}
			m.Nodes = append(m.Nodes, n)
		}
	}
	last := len(m.Nodes)
	m.Nodes = append(m.Nodes, laid(s, api.NEnd, 3))
	for i := range m.Nodes {
		for port := range m.Nodes[i].Next {
			m.Nodes[i].Next[port] = last
		}
		m.Nodes[i].Catch = min(m.Nodes[i].Catch, 0)
		if m.Nodes[i].Catch == 0 {
			m.Nodes[i].Catch = last
		}
	}
	check(t, "all kinds, twice", m, want...)
	m.Nodes[0].Next[0], m.Nodes[0].Label = 2, 3
	check(t, "all kinds, twice, and an edge", m, append([]api.Fault{fault(1, 0)}, want...)...)
}

// bends makes a model that isn't well formed of one that is, by one of chapter 14's rules; the model has the tested node and the bed's things.
func bends() map[int][]func(m *api.Model) {
	return map[int][]func(m *api.Model){
		1: {func(m *api.Model) { m.Labels = 0 }, func(m *api.Model) { m.Labels = 9 }, func(m *api.Model) { m.Order = append(slices.Clone(m.Order), [2]int{3, 0}) }, func(m *api.Model) { m.Order = nil }},
		2: {func(m *api.Model) { m.Vars[0].Name = "len" }, func(m *api.Model) { m.Vars[0].Label = 4 }, func(m *api.Model) { m.Vars[0].Label = -1 }, func(m *api.Model) { m.Vars[0].Init = api.Value{} }},
		3: {func(m *api.Model) { m.Msgs[0].Name = "" }, func(m *api.Model) { m.Msgs[0].Label = 4 }, func(m *api.Model) { m.Msgs[0].Label = -1 }, func(m *api.Model) { m.Msgs[0].Key.Kind = api.TNone }},
		4: {func(m *api.Model) { m.Grants[0][0] = 4 }, func(m *api.Model) { m.Grants[0][1] = -1 }},
		5: {func(m *api.Model) { m.Nodes[0].Label = 4 }, func(m *api.Model) { m.Nodes[0].Label = -1 }, func(m *api.Model) { m.Nodes[0].Next[0] = 0 }, func(m *api.Model) { m.Nodes[0].Next = nil }, func(m *api.Model) { m.Nodes[0].Catch = end }, func(m *api.Model) { m.Nodes[0].Var = 0 }, func(m *api.Model) { m.Nodes[0].Kind = api.NTask }},
		6: {func(m *api.Model) {
			m.Nodes[0] = api.Node{Kind: api.NTask, Label: 3, Next: []int{end}, Expr: expr("v9"), Msg: -1, Catch: -1}
		}, func(m *api.Model) {
			m.Nodes[0] = api.Node{Kind: api.NRelease, Label: 0, Next: []int{end}, Expr: expr("1"), Body: expr("true"), Msg: -1, Catch: -1, From: 3}
		}},
		7: {func(m *api.Model) { m.Nodes = slices.Repeat(m.Nodes, 20)[:41] }, func(m *api.Model) { m.Vars = slices.Repeat(m.Vars, 5) }, func(m *api.Model) { m.Msgs = slices.Repeat(m.Msgs, 3) }, func(m *api.Model) { m.Grants = slices.Repeat(m.Grants, 5) }, func(m *api.Model) { m.Nodes = nil }},
	}
}

// lowers are models that are well formed: one that is accepted, and one with a fault of each rule.
func lowers() map[string]api.Model {
	s := shapes()["diamond"]
	good := with(s, laid(s, api.NRelease, 0))
	bad := model.Own(good)
	bad.Nodes[tested].From, bad.Nodes[tested].Expr = 1, expr("v2")
	bad.Nodes[tested].Label, bad.Nodes[tested].Var = 3, 0
	bad.Nodes[end].Label = 2
	receives := laid(s, api.NReceive, 1)
	receives.Msg, receives.Expr, receives.Var = 3, expr("v3"), 2
	sends := laid(s, api.NSend, 1)
	sends.Msg = 2
	bad.Nodes = append(bad.Nodes, receives, sends)
	return map[string]api.Model{"accepted": good, "with all faults": bad}
}

// P16.1, P16.2: of what isn't well formed the faults of well are told alone, with 10 more as Rule.
func TestNotWellFormed(t *testing.T) {
	lows := lowers()
	check(t, "accepted", lows["accepted"])
	check(t, "with all faults", lows["with all faults"], fault(1, 1), fault(1, 2), fault(1, 3), fault(1, 4), fault(1, 5), fault(3, 1), fault(6, 1), fault(2, 3), fault(3, 3), fault(4, 3), fault(5, 4))
	for what, low := range lows {
		for rule, all := range bends() {
			for i, bend := range all {
				m := model.Own(low)
				m.Nodes = append(m.Nodes, laid(shapes()["diamond"], api.NStart, 0)) // so that it has one, whatever the first becomes
				bend(&m)
				at := 0
				if rule == 1 || rule == 7 {
					at = -1
				}
				check(t, fmt.Sprint(what, ", rule ", rule, ", ", i), m, fault(10+rule, at))
			}
		}
	}
	check(t, "the model that is none", api.Model{}, fault(11, -1))
	check(t, "labels alone", api.Model{Labels: 1}, fault(17, -1))
}

// P16.1: several faults of well, in its order, each with its At.
func TestSeveralOfWell(t *testing.T) {
	for what, low := range lowers() {
		m := model.Own(low)
		m.Vars[1].Init, m.Vars[3].Label = api.Value{}, 9
		m.Msgs[2].Label = -1
		m.Grants[5][1], m.Grants[9][0] = 4, -1
		m.Nodes[start].Kind = api.NEnd
		m.Nodes[tested].Body = expr("true")
		check(t, what, m, fault(12, 1), fault(12, 3), fault(13, 2), fault(14, 5), fault(14, 9), fault(15, start), fault(16, tested), fault(17, -1))
	}
}

// P16.1: a release whose Body reads anything isn't well formed, be it low or high; one whose Expr reads high alone breaks no rule 2.
func TestReleaseBody(t *testing.T) {
	for what, s := range shapes() {
		for _, pair := range s.pairs() {
			n := laid(s, api.NRelease, pair[0])
			n.From = pair[1]
			n.Expr = sum(pair[1])
			check(t, fmt.Sprint(what, ", Expr reads ", pair), with(s, n))
			for _, text := range []string{name(pair[1]), "true?1:" + name(pair[1]), name(pair[1]) + "*0"} {
				n.Body = expr(text)
				check(t, fmt.Sprint(what, ", Body reads ", pair), with(s, n), fault(16, tested))
			}
		}
	}
}
