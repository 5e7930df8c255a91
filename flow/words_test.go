package flow

import (
	"fmt"
	"math"
	"slices"
	"testing"

	"bascule/api"
	"bascule/parse"
	"bascule/well"
)

// Things to write.

func expr(text string) api.Expr {
	x, _, e := parse.Parse(text)
	if e != api.OK {
		panic("no expression: " + text)
	}
	return x
}

func exprs(texts ...string) []api.Expr {
	var all []api.Expr
	for _, text := range texts {
		all = append(all, expr(text))
	}
	return all
}

// fault is written shortly.
func fault(rule, at int) api.Fault { return api.Fault{Rule: rule, At: at} }

// shape is a lattice: how many labels, and which pairs.
type shape struct {
	size  int
	order [][2]int
}

// shapes are lattices of one label and of several, with the bottom first, last and between.
func shapes() map[string]shape {
	return map[string]shape{
		"one":            {1, nil},
		"two":            {2, [][2]int{{0, 1}}},
		"two, turned":    {2, [][2]int{{1, 0}}},
		"three in a row": {3, [][2]int{{2, 0}, {0, 1}}},
		"diamond":        {4, [][2]int{{0, 1}, {0, 2}, {1, 3}, {2, 3}}},
		"turned diamond": {4, [][2]int{{2, 3}, {2, 0}, {0, 1}, {3, 1}}},
		"three beside":   {5, [][2]int{{0, 1}, {0, 2}, {0, 3}, {1, 4}, {2, 4}, {3, 4}}},
		"two beside one": {5, [][2]int{{4, 1}, {1, 2}, {2, 0}, {4, 3}, {3, 0}}},
		"eight in a row": {8, [][2]int{{7, 6}, {6, 5}, {5, 4}, {4, 3}, {3, 2}, {2, 1}, {1, 0}}},
		"cube":           {8, [][2]int{{0, 1}, {0, 2}, {0, 4}, {1, 3}, {1, 5}, {2, 3}, {2, 6}, {4, 5}, {4, 6}, {3, 7}, {5, 7}, {6, 7}}},
	}
}

// The document's words of an order: by chains of pairs, and by what all others are held against.

// leq seeks a chain of pairs from a to b.
func (s shape) leq(a, b int) bool {
	met := []int{a}
	for i := 0; i < len(met); i++ {
		for _, pair := range s.order {
			if pair[0] == met[i] && !slices.Contains(met, pair[1]) {
				met = append(met, pair[1])
			}
		}
	}
	return slices.Contains(met, b)
}

func (s shape) has(a int) bool { return a >= 0 && a < s.size }

// join answers the label at or above all, and at or below all that are.
func (s shape) join(all ...int) int {
	for a := range s.size {
		over := func(b int) bool { return !slices.ContainsFunc(all, func(one int) bool { return !s.leq(one, b) }) }
		least := over(a)
		for b := range s.size {
			least = least && (!over(b) || s.leq(a, b))
		}
		if least {
			return a
		}
	}
	panic("no join")
}

func (s shape) bottom() int { return s.join() }

func (s shape) top() int {
	var all []int
	for a := range s.size {
		all = append(all, a)
	}
	return s.join(all...)
}

// pairs are all of them: as many as there may be grants.
func (s shape) pairs() [][2]int {
	var all [][2]int
	for a := range s.size {
		for b := range s.size {
			all = append(all, [2]int{a, b})
		}
	}
	return all
}

// between tells how a lies to b.
func (s shape) between(a, b int) string {
	switch {
	case a == b:
		return "at"
	case s.leq(a, b):
		return "below"
	case s.leq(b, a):
		return "above"
	}
	return "beside"
}

// wrongLabels are none of a lattice of so many.
func wrongLabels(n int) []int {
	return []int{-1, -2, -n, n, n + 1, 8, 9, 255, 256, 1 << 32, 1<<32 + 1, -1 << 32, math.MinInt, math.MaxInt}
}

// The bed: for each label a variable and a message of that label, by their numbers; all pairs are granted.

func name(label int) string { return fmt.Sprint("v", label) }

func bed(s shape) api.Model {
	m := api.Model{Labels: s.size, Order: s.order, Grants: s.pairs()}
	num := api.Type{Kind: api.TInt}
	for a := range s.size {
		m.Vars = append(m.Vars, api.Var{Name: name(a), Label: a, Type: num, Init: api.Value{Kind: api.VInt, N: int64(a)}})
		m.Msgs = append(m.Msgs, api.Msg{Name: name(a), Label: a, Key: num, Body: num})
	}
	return m
}

// The nodes of a model that has one node laid in the bed.
const start, tested, end = 0, 1, 2

// laid is a node of a kind at a label, that breaks no rule in the bed: it reads nothing, sets what is at the top, and its ways lead to the end.
func laid(s shape, kind, label int) api.Node {
	n := api.Node{Kind: kind, Label: label, Next: []int{end}, Var: -1, Msg: -1, Catch: -1}
	switch kind {
	case api.NEnd, api.NStop:
		n.Next = nil
	case api.NTask:
		n.Expr, n.Var, n.Catch = expr("1"), s.top(), end
	case api.NChoose, api.NSome:
		n.Conds, n.Next, n.Catch = exprs("true", "false", "true"), []int{end, end, end, end}, end
	case api.NUser:
		n.Var, n.Wait, n.Catch = s.top(), 3, end
	case api.NTimer:
		n.Wait = 3
	case api.NReceive:
		n.Expr, n.Var, n.Msg, n.Catch = expr("1"), s.top(), label, end
	case api.NSend:
		n.Expr, n.Body, n.Msg, n.Catch = expr("1"), expr("2"), s.top(), end
	case api.NEvent:
		n.Expr, n.Var, n.Msg, n.Wait, n.Catch, n.Next = expr("1"), s.top(), label, 3, end, []int{end, end}
	case api.NRelease:
		n.Expr, n.Body, n.Var, n.From = expr("1"), expr("2"), s.top(), label
	}
	return n
}

// with is the bed with one node: a start at the bottom leads to it, unless it is a start itself, and it leads to an end at the top.
func with(s shape, n api.Node) api.Model {
	m := bed(s)
	to := tested
	if n.Kind == api.NStart {
		to = end
	}
	m.Nodes = []api.Node{laid(s, api.NStart, s.bottom()), n, laid(s, api.NEnd, s.top())}
	m.Nodes[start].Next = []int{to}
	return m
}

// allKinds are those of nodes.
func allKinds() []int {
	return []int{api.NStart, api.NEnd, api.NTask, api.NChoose, api.NSome, api.NPar, api.NUser, api.NTimer, api.NReceive, api.NSend, api.NEvent, api.NRelease, api.NStop}
}

// places are where a node's expressions stand, each to be written by itself; none of a release.
func places(n api.Node) map[string]func(n *api.Node, x api.Expr) {
	all := map[string]func(n *api.Node, x api.Expr){}
	for i := range n.Conds {
		all[fmt.Sprint("Cond ", i)] = func(n *api.Node, x api.Expr) {
			n.Conds = slices.Clone(n.Conds)
			n.Conds[i] = api.Expr{Kind: api.EEq, Kids: []api.Expr{x, expr("1")}}
		}
	}
	if n.Expr.Kind != 0 && n.Kind != api.NRelease {
		all["Expr"] = func(n *api.Node, x api.Expr) { n.Expr = x }
	}
	if n.Body.Kind != 0 && n.Kind != api.NRelease {
		all["Body"] = func(n *api.Node, x api.Expr) { n.Body = x }
	}
	return all
}

// The document's words of what a model lets down, rule by rule.

// judged answers the faults by those words.
func judged(m api.Model) []api.Fault {
	if refused := well.Check(m); len(refused) > 0 {
		var all []api.Fault
		for _, one := range refused {
			all = append(all, fault(10+one.Rule, one.At))
		}
		return all
	}
	s := shape{m.Labels, m.Order}
	var all []api.Fault
	for number, way := range waysOf(m) {
		if !s.leq(m.Nodes[way[0]].Label, m.Nodes[way[1]].Label) {
			all = append(all, fault(1, number))
		}
	}
	for at, n := range m.Nodes {
		for rule := 2; rule <= 6; rule++ {
			if breaks(s, m, n, rule) {
				all = append(all, fault(rule, at))
			}
		}
	}
	return all
}

// waysOf are the edges in their order: of each node those of Next, then Catch's.
func waysOf(m api.Model) [][2]int {
	var all [][2]int
	for from, n := range m.Nodes {
		for _, to := range n.Next {
			all = append(all, [2]int{from, to})
		}
		if n.Catch >= 0 {
			all = append(all, [2]int{from, n.Catch})
		}
	}
	return all
}

func breaks(s shape, m api.Model, n api.Node, rule int) bool {
	isRelease := n.Kind == api.NRelease
	switch rule {
	case 2:
		read := append(slices.Clone(n.Conds), n.Body)
		if !isRelease {
			read = append(read, n.Expr)
		}
		return !s.leq(labelOf(s, m, read...), n.Label)
	case 3:
		return n.Var >= 0 && !s.leq(n.Label, m.Vars[n.Var].Label)
	case 4:
		return (n.Kind == api.NReceive || n.Kind == api.NEvent) && m.Msgs[n.Msg].Label != n.Label
	case 5:
		return n.Kind == api.NSend && !s.leq(n.Label, m.Msgs[n.Msg].Label)
	}
	granted := false
	for _, grant := range m.Grants {
		granted = granted || grant[0] == n.From && grant[1] == n.Label
	}
	return isRelease && !(s.leq(labelOf(s, m, n.Expr), n.From) && granted)
}

// labelOf joins the labels of all variables in expressions.
func labelOf(s shape, m api.Model, list ...api.Expr) int {
	var all []int
	for open := list; len(open) > 0; {
		x := open[len(open)-1]
		open = append(slices.Clone(open[:len(open)-1]), x.Kids...)
		for _, v := range m.Vars {
			if x.Kind == api.EVar && x.S == v.Name {
				all = append(all, v.Label)
			}
		}
	}
	return s.join(all...)
}

// raised are the labels that a well formed model's nodes come to: of each the join of its own and of all that lead to it, over others too.
func raised(m api.Model) []int {
	s := shape{m.Labels, m.Order}
	var all []int
	for at := range m.Nodes {
		behind := []int{at}
		for i := 0; i < len(behind); i++ {
			for _, way := range waysOf(m) {
				if way[1] == behind[i] && !slices.Contains(behind, way[0]) {
					behind = append(behind, way[0])
				}
			}
		}
		var labels []int
		for _, node := range behind {
			labels = append(labels, m.Nodes[node].Label)
		}
		all = append(all, s.join(labels...))
	}
	return all
}

// check wants just these faults, the words of the document to be of that mind, and the other answers to go with them.
func check(t *testing.T, what string, m api.Model, want ...api.Fault) {
	t.Helper()
	if got := Check(m); !slices.Equal(got, want) {
		t.Errorf("%s: faults %v, not %v", what, got, want)
	}
	if told := judged(m); !slices.Equal(told, want) {
		t.Errorf("%s: by the document %v, not %v", what, told, want)
	}
	if got := Accepts(m); got != (len(want) == 0) {
		t.Errorf("%s: accepted: %v", what, got)
	}
	if len(want) > 0 && want[0].Rule > 10 {
		checkRefused(t, what, m)
	}
}

// checkOne wants one fault, of the tested node, where the rule is broken; else none.
func checkOne(t *testing.T, what string, m api.Model, rule int, broken bool) {
	t.Helper()
	if broken {
		check(t, what, m, fault(rule, tested))
		return
	}
	check(t, what, m)
}

// checkRefused wants what is answered of a model that isn't well formed.
func checkRefused(t *testing.T, what string, m api.Model) {
	t.Helper()
	if got, e := Lift(m); len(got) > 0 || e != api.ErrForm {
		t.Errorf("%s: lifted to %v, error %d", what, got, e)
	}
	for _, level := range append(wrongLabels(2), 0, 1, 2, 3, 4, 5, 6, 7) {
		if got := Releases(m, level); len(got) > 0 {
			t.Errorf("%s: releases to %d: %v", what, level, got)
		}
	}
}
