package model

import (
	"fmt"
	"math"
	"math/rand"
	"slices"
	"strconv"
	"strings"
	"testing"

	"bascule/api"
)

// graph reads "1 | 2 0 ^2 |" as three nodes: what stands in Next, and behind ^ the Catch (-1 where there is none). Of "" there is one node.
func graph(text string) api.Model {
	var m api.Model
	for _, part := range strings.Split(text, "|") {
		n := api.Node{Kind: api.NTask, Catch: -1}
		for _, field := range strings.Fields(part) {
			to, err := strconv.Atoi(strings.TrimPrefix(field, "^"))
			if err != nil {
				panic(err)
			}
			if field[0] == '^' {
				n.Catch = to
			} else {
				n.Next = append(n.Next, to)
			}
		}
		m.Nodes = append(m.Nodes, n)
	}
	return m
}

// sameList holds lists against each other; nil and an empty one are one.
func sameList[T comparable](t *testing.T, what any, got, want []T) {
	t.Helper()
	if !slices.Equal(got, want) {
		t.Fatalf("%.300v: %.300v, not %.300v", what, got, want)
	}
}

// seekEdges tells the edges by looking for each number of a node, and each port, by itself.
func seekEdges(m api.Model) []api.Edge {
	var all []api.Edge
	for from := 0; from < len(m.Nodes); from++ {
		n := m.Nodes[from]
		for port := 0; port < len(n.Next); port++ {
			all = append(all, api.Edge{From: from, Port: port, To: n.Next[port]})
		}
		if n.Catch > -1 {
			all = append(all, api.Edge{From: from, Port: len(n.Next), To: n.Catch})
		}
	}
	return all
}

// seekReach tells what is reached by a table that is closed over chains.
func seekReach(m api.Model) [][]int {
	size := len(m.Nodes)
	leads := make([][]bool, size)
	for i := range leads {
		leads[i] = make([]bool, size)
	}
	for _, edge := range seekEdges(m) {
		if edge.To >= 0 && edge.To < size {
			leads[edge.From][edge.To] = true
		}
	}
	for over := range leads {
		for from := range leads {
			for to := range leads {
				leads[from][to] = leads[from][to] || leads[from][over] && leads[over][to]
			}
		}
	}
	lists := make([][]int, size)
	for from, row := range leads {
		for to, is := range row {
			if is {
				lists[from] = append(lists[from], to)
			}
		}
	}
	return lists
}

// numbersAround are numbers of nodes, and others, far ones too.
func numbersAround(size int) []int {
	numbers := []int{math.MinInt, math.MinInt64 + 1, math.MinInt32, -1000, math.MaxInt32, math.MaxInt32 + 1, math.MaxInt - 1, math.MaxInt}
	for i := -3; i < size+4; i++ {
		numbers = append(numbers, i)
	}
	return numbers
}

// checkGraph holds all that is told of a graph against the document's words.
func checkGraph(t *testing.T, m api.Model) {
	t.Helper()
	edges, reached := seekEdges(m), seekReach(m)
	sameList(t, "edges", Edges(m), edges)
	asked := numbersAround(len(m.Nodes))
	for _, edge := range edges {
		asked = append(asked, edge.To)
	}
	for _, node := range asked {
		var into, reach []int
		for number, edge := range edges {
			if edge.To == node {
				into = append(into, number)
			}
		}
		if node >= 0 && node < len(m.Nodes) {
			reach = reached[node]
		}
		sameList(t, []any{"into", node, edges}, Into(m, node), into)
		sameList(t, []any{"reach", node, edges}, Reach(m, node), reach)
		for _, port := range numbersAround(8) {
			want := slices.IndexFunc(edges, func(e api.Edge) bool { return e.From == node && e.Port == port })
			if got := Out(m, node, port); got != want {
				t.Fatalf("out of %d by %d: %d, not %d: %v", node, port, got, want, edges)
			}
		}
	}
}

// The chapter's examples.
func TestExamples(t *testing.T) {
	m := graph("1 | 2 0 ^2 |")
	sameList(t, "edges", Edges(m), []api.Edge{{From: 0, Port: 0, To: 1}, {From: 1, Port: 0, To: 2}, {From: 1, Port: 1, To: 0}, {From: 1, Port: 2, To: 2}})
	sameList(t, "into 2", Into(m, 2), []int{1, 3})
	if got := Out(m, 1, 2); got != 3 {
		t.Error("out:", got)
	}
	sameList(t, "reach 0", Reach(m, 0), []int{0, 1, 2})
	sameList(t, "reach 2", Reach(m, 2), nil)
}

// P12.1: edges one by one.
func TestEdgesPlain(t *testing.T) {
	if len(Edges(api.Model{})) != 0 || len(Edges(api.Model{Nodes: []api.Node{}})) != 0 {
		t.Error("edges of no nodes")
	}
	if len(Edges(api.Model{Labels: 2, Order: [][2]int{{0, 1}}, Grants: [][2]int{{1, 0}}, Vars: make([]api.Var, 3), Msgs: make([]api.Msg, 3)})) != 0 {
		t.Error("edges of what is no node")
	}
	for text, want := range map[string][]api.Edge{
		"":              nil,
		"||":            nil,
		"^-1 | ^-2 |":   nil,
		"0":             {{From: 0, Port: 0, To: 0}},
		"^0":            {{From: 0, Port: 0, To: 0}},
		"| ^1":          {{From: 1, Port: 0, To: 1}},
		"1 ^0 |":        {{From: 0, Port: 0, To: 1}, {From: 0, Port: 1, To: 0}},
		"^2 |":          {{From: 0, Port: 0, To: 2}},
		"^3 |":          {{From: 0, Port: 0, To: 3}},
		"1 1 1 ^1 |":    {{From: 0, Port: 0, To: 1}, {From: 0, Port: 1, To: 1}, {From: 0, Port: 2, To: 1}, {From: 0, Port: 3, To: 1}},
		"-1 -7 ^-1 | 2": {{From: 0, Port: 0, To: -1}, {From: 0, Port: 1, To: -7}, {From: 1, Port: 0, To: 2}},
		"|| 2 1 0 ||0":  {{From: 2, Port: 0, To: 2}, {From: 2, Port: 1, To: 1}, {From: 2, Port: 2, To: 0}, {From: 4, Port: 0, To: 0}},
		"^1 | 0 ^9223372036854775807 | -9223372036854775808 ^-9223372036854775808": {{From: 0, Port: 0, To: 1}, {From: 1, Port: 0, To: 0}, {From: 1, Port: 1, To: math.MaxInt}, {From: 2, Port: 0, To: math.MinInt}},
	} {
		sameList(t, text, Edges(graph(text)), want)
		checkGraph(t, graph(text))
	}
}

// P12.1: a Catch of any number behind ways out of any number.
func TestCatches(t *testing.T) {
	for count := range 8 {
		for _, catch := range numbersAround(3) {
			m := graph("||")
			m.Nodes[0].Next, m.Nodes[2].Next = []int{2}, []int{1}
			m.Nodes[1].Next, m.Nodes[1].Catch = slices.Repeat([]int{2}, count), catch
			edges := Edges(m)
			want := count + 2
			if catch >= 0 {
				want++
				sameList(t, catch, edges[count+1:count+2], []api.Edge{{From: 1, Port: count, To: catch}})
			}
			if len(edges) != want {
				t.Fatal(count, catch, ": ", edges)
			}
			checkGraph(t, m)
		}
	}
}

// P12.1: the kind of a node, and whatever else it has, makes no edge, and keeps none away.
func TestKindsMakeNoEdge(t *testing.T) {
	for kind := -2; kind < 17; kind++ {
		m := graph("1 2 ^0 | 2 |")
		for i := range m.Nodes {
			m.Nodes[i] = api.Node{Kind: kind, Label: 3, Next: m.Nodes[i].Next, Catch: m.Nodes[i].Catch, Var: 1, Msg: 2, Wait: 4, From: 2, Conds: make([]api.Expr, 2), Expr: api.Expr{Kind: api.EVar, S: "x"}}
		}
		sameList(t, kind, Edges(m), seekEdges(graph("1 2 ^0 | 2 |")))
		checkGraph(t, m)
	}
}

// P12.1: where edges lead, also to what is no node.
func TestIntoPlain(t *testing.T) {
	m := graph("1 1 -5 ^1 | 9 ^9 | 0 2 ^2 |")
	for node, want := range map[int][]int{0: {6}, 1: {0, 1, 3}, 2: {7, 8}, 3: nil, 4: nil, -5: {2}, 9: {4, 5}, -1: nil, 10: nil, math.MinInt: nil, math.MaxInt: nil} {
		sameList(t, node, Into(m, node), want)
	}
	for _, m := range []api.Model{{}, graph(""), graph("||")} {
		for _, node := range numbersAround(3) {
			sameList(t, node, Into(m, node), nil)
		}
	}
	m = graph("^0") // a Catch below 0 is no edge, and leads nowhere
	m.Nodes[0].Catch = -4
	sameList(t, -4, Into(m, -4), nil)
	m.Nodes[0].Next = []int{-4}
	sameList(t, -4, Into(m, -4), []int{0})
}

// P12.1: each edge has its number; what is none has -1.
func TestOutPlain(t *testing.T) {
	m := graph("1 1 -5 ^1 | | 0 2 | ^7 |")
	for number, edge := range Edges(m) {
		if got := Out(m, edge.From, edge.Port); got != number {
			t.Errorf("%v: %d, not %d", edge, got, number)
		}
	}
	for _, none := range [][2]int{{0, -1}, {0, 4}, {0, 5}, {0, math.MaxInt}, {0, math.MinInt}, {1, 0}, {1, -1}, {2, 2}, {2, 3}, {3, 1}, {4, 0}, {4, -1}, {5, 0}, {6, 0}, {-1, 0}, {-1, 3}, {-1, -1}, {-2, 0}, {math.MinInt, 0}, {math.MaxInt, 0}, {math.MaxInt, math.MaxInt}, {math.MinInt, math.MinInt}} {
		if got := Out(m, none[0], none[1]); got != -1 {
			t.Errorf("%v: %d", none, got)
		}
	}
	for _, node := range numbersAround(2) {
		if Out(api.Model{}, node, 0) != -1 || Out(graph(""), node, 0) != -1 {
			t.Error("out of nothing by", node)
		}
	}
}

// P12.2: what is reached, one by one.
func TestReachPlain(t *testing.T) {
	for _, c := range []struct {
		text string
		node int
		want []int
	}{
		{"", 0, nil}, {"0", 0, []int{0}}, {"^0", 0, []int{0}}, {"0 0 ^0", 0, []int{0}},
		{"1 |", 0, []int{1}}, {"1 |", 1, nil}, {"1 | 0", 0, []int{0, 1}}, {"1 | 0", 1, []int{0, 1}}, {"1 | 1", 0, []int{1}}, {"1 | 1", 1, []int{1}}, {"^1 | ^0", 0, []int{0, 1}}, {"0 | 0", 1, []int{0}},
		{"3 2 1 |||", 0, []int{1, 2, 3}}, {"| 0 | 1 | 2", 3, []int{0, 1, 2}}, {"| ^0 | ^1 | ^2", 3, []int{0, 1, 2}}, {"4 ||| 1 | 3 1", 0, []int{1, 3, 4}}, {"1 | 2 | 1 | 0", 0, []int{1, 2}}, {"1 | 2 | 1 | 0", 3, []int{0, 1, 2}}, {"| 2 | 1", 0, nil}, {"1 | 2 ^3 | | 1", 0, []int{1, 2, 3}},
		{"5 -1 1 ^9 | 2 -3 | 99", 0, []int{1, 2}}, {"-1 1 ^2", 0, nil}, {"9 ^1 | 2", 0, []int{1}}, {"9 0", 0, []int{0}}, {"1 | 9 ^0", 0, []int{0, 1}},
		{"0", 1, nil}, {"0", -1, nil}, {"-1 ^5", -1, nil}, {"5 ^5", 5, nil}, {"0", math.MinInt, nil}, {"0", math.MaxInt, nil},
	} {
		sameList(t, c, Reach(graph(c.text), c.node), c.want)
		checkGraph(t, graph(c.text))
	}
	for _, node := range numbersAround(2) {
		sameList(t, node, Reach(api.Model{}, node), nil)
	}
}

// P12.1, P12.2: every graph of two nodes with up to two ways and a Catch each, to nodes and to what is none.
func TestSmallGraphs(t *testing.T) {
	var rows []string
	for _, next := range []string{"", "-1", "0", "1", "2", "0 0", "0 1", "1 0", "1 1", "2 0", "-2 1", "0 -1", "1 2"} {
		for _, catch := range []string{"", " ^-2", " ^0", " ^1", " ^2"} {
			rows = append(rows, next+catch)
		}
	}
	for _, first := range rows {
		checkGraph(t, graph(first))
		for _, second := range rows {
			checkGraph(t, graph(first+"|"+second))
		}
	}
}

// anyGraph draws a graph of so many nodes with so many ways out of each at most.
func anyGraph(r *rand.Rand, size, most int) api.Model {
	m := api.Model{Nodes: make([]api.Node, size)}
	anyTo := func() int { return r.Intn(size) }
	if r.Intn(2) == 0 { // others lead to what is no node, too
		anyTo = func() int { return r.Intn(size+4) - 2 }
	}
	for i := range m.Nodes {
		m.Nodes[i].Catch = -1 - r.Intn(3)
		if r.Intn(4) == 0 {
			m.Nodes[i].Catch = anyTo()
		}
		for range r.Intn(most + 1) {
			m.Nodes[i].Next = append(m.Nodes[i].Next, anyTo())
		}
	}
	return m
}

// P12.1, P12.2: graphs of any shape.
func TestManyGraphs(t *testing.T) {
	r := rand.New(rand.NewSource(1))
	for range 1500 {
		checkGraph(t, anyGraph(r, 1+r.Intn(12), 1+r.Intn(6)))
	}
	for range 30 {
		checkGraph(t, anyGraph(r, 30+r.Intn(30), 1+r.Intn(2)))
	}
}

// P12.2: rising, over many nodes: a long ring in both directions, over Next and over Catches, and a long way that isn't one.
func TestLongWays(t *testing.T) {
	const size = 300000
	all := make([]int, size)
	for i := range all {
		all[i] = i
	}
	for _, by := range []int{1, -1, 7} {
		m := api.Model{Nodes: make([]api.Node, size)}
		for i := range m.Nodes {
			to := (i + by + size) % size
			if m.Nodes[i].Catch = -1; i%3 == 0 {
				m.Nodes[i].Catch = to
			} else {
				m.Nodes[i].Next = []int{to}
			}
		}
		sameList(t, by, Reach(m, 5), all)
		sameList(t, by, Reach(m, size-1), all)
		m.Nodes[8] = api.Node{Catch: -1}
		sameList(t, by, Reach(m, 8), nil)
		reached := Reach(m, 8+by)
		if len(reached) != size-1 || slices.Contains(reached, 8+by) || !slices.Contains(reached, 8) {
			t.Error("a way that is cut:", by, len(reached))
		}
	}
}

// P12.1, P12.2: many ways out of one node, and as many into one.
func TestWideGraphs(t *testing.T) {
	const size = 5000
	m := api.Model{Nodes: make([]api.Node, size)}
	var all, numbers []int
	for i := range m.Nodes {
		m.Nodes[i] = api.Node{Next: []int{size - 1}, Catch: -1}
		all = append(all, size-1-i)
		numbers = append(numbers, size+i)
	}
	m.Nodes[0].Next = all
	sameList(t, "reach", Reach(m, 0), slices.Sorted(slices.Values(all)))
	sameList(t, "reach", Reach(m, 1), []int{size - 1})
	sameList(t, "into", Into(m, size-1), append([]int{0}, numbers[:size-1]...))
	if Out(m, 0, size-1) != size-1 || Out(m, 0, size) != -1 || Out(m, size-1, 0) != 2*size-2 || Out(m, size-1, 1) != -1 {
		t.Error("out")
	}
}

// P12.2: many nodes, each with a way to each.
func TestDenseGraph(t *testing.T) {
	const size = 700
	m := api.Model{Nodes: make([]api.Node, size)}
	all := make([]int, size)
	for i := range all {
		all[i] = i
	}
	for i := range m.Nodes {
		m.Nodes[i] = api.Node{Next: all, Catch: i}
	}
	sameList(t, "reach", Reach(m, 13), all)
	if len(Edges(m)) != size*(size+1) || len(Into(m, 13)) != size+1 {
		t.Error("edges")
	}
}

// P12.4: what is reached from what is reached is reached.
func TestReachGoesOn(t *testing.T) {
	r := rand.New(rand.NewSource(2))
	loops, ends := 0, 0
	for range 1500 {
		m := anyGraph(r, 1+r.Intn(15), 1+r.Intn(3))
		for node := range m.Nodes {
			reached := Reach(m, node)
			if slices.Contains(reached, node) {
				loops++
			} else {
				ends++
			}
			for _, over := range reached {
				for _, to := range Reach(m, over) {
					if !slices.Contains(reached, to) {
						t.Fatal(node, over, to, seekEdges(m))
					}
				}
			}
			for _, edge := range Edges(m) {
				if isNode := edge.To >= 0 && edge.To < len(m.Nodes); isNode && edge.From == node && !slices.Contains(reached, edge.To) {
					t.Fatal(node, edge)
				}
			}
		}
	}
	if loops < 1000 || ends < 1000 {
		t.Error("hardly any of one side:", loops, ends)
	}
}

// Rules 5, 7: answers are new memory, and the same is answered again, whatever is done to them.
func TestGraphAnswersAreNew(t *testing.T) {
	r := rand.New(rand.NewSource(3))
	for range 300 {
		m := anyGraph(r, 1+r.Intn(10), 3)
		for i, n := range m.Nodes {
			m.Nodes[i].Next = append(make([]int, 0, len(n.Next)+3), n.Next...)
		}
		before := laidOpen(m)
		for node := range m.Nodes {
			edges, into, reach, out := Edges(m), Into(m, node), Reach(m, node), Out(m, node, 0)
			told := fmt.Sprint(edges, into, reach, out)
			checkNew(t, []any{edges, into, reach}, m)
			scribble(&edges)
			scribble(&into)
			scribble(&reach)
			if laidOpen(m) != before {
				t.Fatal("what was handed in became another one")
			}
			if again := fmt.Sprint(Edges(m), Into(m, node), Reach(m, node), Out(m, node, 0)); again != told {
				t.Fatal("another answer: ", again, told)
			}
		}
	}
}
