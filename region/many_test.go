package region

import (
	"math/big"
	"math/rand"
	"slices"
	"testing"

	"bascule/api"
	"bascule/model"
)

// leads answers, for each node, what its edges that count lead to, read off its fields.
func leads(m api.Model) [][]int {
	lists := make([][]int, len(m.Nodes))
	for i, n := range m.Nodes {
		for _, to := range n.Next {
			if to >= 0 && to < len(m.Nodes) {
				lists[i] = append(lists[i], to)
			}
		}
		if n.Catch >= 0 && n.Catch < len(m.Nodes) {
			lists[i] = append(lists[i], n.Catch)
		}
	}
	return lists
}

// reached answers whether each node is come to from another one by one edge or more, none of them from or to the one that is barred.
func reached(to [][]int, from, barred int) []bool {
	is := make([]bool, len(to))
	if from == barred {
		return is
	}
	open := []int{from}
	for len(open) > 0 {
		node := open[0]
		open = open[1:]
		for _, next := range to[node] {
			if next != barred && !is[next] {
				is[next] = true
				open = append(open, next)
			}
		}
	}
	return is
}

const nobody = -1

func seekLoops(to [][]int) []int {
	var loops []int
	for node := range to {
		if reached(to, node, nobody)[node] {
			loops = append(loops, node)
		}
	}
	return loops
}

// seekOrder looks, for each place, for the first node that nothing leads to any more.
func seekOrder(to [][]int) []int {
	var order []int
	stands := make([]bool, len(to))
	for range to {
		led := make([]bool, len(to))
		for node, list := range to {
			for _, next := range list {
				led[next] = led[next] || !stands[node]
			}
		}
		for node := range to {
			if !led[node] && !stands[node] {
				stands[node] = true
				order = append(order, node)
				break
			}
		}
	}
	return order
}

// seekWeights counts, without a most, the ways that begin at each node: those of no edge, of one, of two and so on.
func seekWeights(to [][]int) []int {
	ways, all := make([]*big.Int, len(to)), make([]*big.Int, len(to))
	for i := range to {
		ways[i], all[i] = big.NewInt(1), big.NewInt(1)
	}
	for range to {
		longer := make([]*big.Int, len(to))
		for i, list := range to {
			longer[i] = new(big.Int)
			for _, next := range list {
				longer[i].Add(longer[i], ways[next])
			}
			all[i].Add(all[i], longer[i])
		}
		ways = longer
	}
	weights := make([]int, len(to))
	for i, n := range all {
		weights[i] = 1000000000
		if n.Cmp(big.NewInt(1000000000)) < 0 {
			weights[i] = int(n.Int64())
		}
	}
	return weights
}

// seekLongest makes ways longer by one edge at a time, as many times as there are nodes.
func seekLongest(m api.Model, to [][]int) int {
	own := make([]int, len(to))
	for i, n := range m.Nodes {
		if n.Wait >= 0 && n.Wait <= 1000 {
			own[i] = n.Wait
		}
	}
	here := slices.Clone(own) // along ways that end at each node
	for range to {
		for i, list := range to {
			for _, next := range list {
				here[next] = max(here[next], here[i]+own[next])
			}
		}
	}
	return slices.Max(append(here, 0))
}

// seekDominators asks of each node what isn't come to any more once it is barred.
func seekDominators(to [][]int, root int) [][]int {
	lists := make([][]int, len(to))
	free := reached(to, root, nobody)
	free[root] = true
	for over := range to {
		without := reached(to, root, over)
		without[root] = root != over
		for node := range to {
			if free[node] && (node == over || !without[node]) {
				lists[node] = append(lists[node], over)
			}
		}
	}
	return lists
}

// enumerated takes the nodes that stand on every way that comes to no node twice, one way after the other.
func enumerated(to [][]int, root int) [][]int {
	lists := make([][]int, len(to))
	met := make([]bool, len(to))
	var goOn func(way []int)
	goOn = func(way []int) {
		last := way[len(way)-1]
		if !met[last] {
			met[last] = true
			lists[last] = slices.Sorted(slices.Values(way))
		}
		lists[last] = slices.DeleteFunc(lists[last], func(over int) bool { return !slices.Contains(way, over) })
		for _, next := range to[last] {
			if !slices.Contains(way, next) {
				goOn(append(slices.Clone(way), next))
			}
		}
	}
	goOn([]int{root})
	return lists
}

// check holds all that is told of a model against the document's words, Dominators from each root.
func check(t *testing.T, m api.Model) (loops int) {
	t.Helper()
	to := leads(m)
	checkLines(t, m, to)
	for root := range m.Nodes {
		sameLists(t, []any{"dominators from", root, to}, Dominators(m, root), seekDominators(to, root))
	}
	return len(Loops(m))
}

// checkLines leaves Dominators aside.
func checkLines(t *testing.T, m api.Model, to [][]int) {
	t.Helper()
	loops := seekLoops(to)
	sameList(t, []any{"loops", to}, Loops(m), loops)
	checkWhetherLoops(t, to, m, len(loops) > 0)
	if len(loops) > 0 {
		return
	}
	order, _ := Order(m)
	sameList(t, []any{"order", to}, order, seekOrder(to))
	weights, _ := Weights(m)
	sameList(t, []any{"weights", to}, weights, seekWeights(to))
	if n, _ := Longest(m); n != seekLongest(m, to) {
		t.Fatalf("longest: %d, not %d: %s", n, seekLongest(m, to), short(to))
	}
}

// drawn answers the graph whose edges are the bits of a number: of size nodes, over Catch those that lead to the node by itself.
func drawn(size, bits int) api.Model {
	m := api.Model{Nodes: make([]api.Node, size)}
	for from := range m.Nodes {
		m.Nodes[from] = api.Node{Catch: -1, Wait: 1 << from}
		for to := range m.Nodes {
			switch {
			case bits>>(from*size+to)&1 == 0:
			case from == to:
				m.Nodes[from].Catch = to
			default:
				m.Nodes[from].Next = append(m.Nodes[from].Next, to)
			}
		}
	}
	return m
}

// P15.1 to P15.3: every graph of up to three nodes, and of four those of which no node leads to itself at once.
func TestEveryGraph(t *testing.T) {
	for size := range 5 {
		for bits := range 1 << (size * size) {
			if size == 4 && bits&0b1000010000100001 != 0 {
				continue
			}
			m := drawn(size, bits)
			check(t, m)
			for root := range size {
				sameLists(t, []any{size, bits, root}, Dominators(m, root), enumerated(leads(m), root))
			}
		}
	}
}

// anyNumbers gives nodes Waits of any kind, and some a way, or a Catch, to what is no node.
func anyNumbers(r *rand.Rand, m api.Model) api.Model {
	size := len(m.Nodes)
	for i := range m.Nodes {
		n := &m.Nodes[i]
		n.Kind = r.Intn(16)
		n.Wait = []int{0, 1, 2, 10, 999, 1000, 1001, -1, r.Intn(1100)}[r.Intn(9)]
		if r.Intn(6) == 0 {
			n.Next = slices.Insert(slices.Clone(n.Next), r.Intn(len(n.Next)+1), []int{-1, -2, size, size + 3}[r.Intn(4)])
		}
		if n.Catch < 0 && r.Intn(6) == 0 {
			n.Catch = []int{-1, -2, size, size + 3}[r.Intn(4)]
		}
	}
	return m
}

// anyGraph draws one of so many nodes with so many ways out of each at most.
func anyGraph(r *rand.Rand, size, most int) api.Model {
	m := api.Model{Nodes: make([]api.Node, size)}
	for i := range m.Nodes {
		m.Nodes[i].Catch = -1
		if r.Intn(4) == 0 {
			m.Nodes[i].Catch = r.Intn(size)
		}
		for range r.Intn(most + 1) {
			m.Nodes[i].Next = append(m.Nodes[i].Next, r.Intn(size))
		}
	}
	return anyNumbers(r, m)
}

// anyWays draws one without loops: nodes lead to those that stand behind them in a row of any order.
func anyWays(r *rand.Rand, size, most int) api.Model {
	m := api.Model{Nodes: make([]api.Node, size)}
	order := r.Perm(size)
	for at, node := range order {
		m.Nodes[node].Catch = -1
		behind := order[at+1:]
		if len(behind) == 0 {
			continue
		}
		if r.Intn(3) == 0 { // near ones, too: else ways are short
			behind = behind[:min(3, len(behind))]
		}
		if r.Intn(4) == 0 {
			m.Nodes[node].Catch = behind[r.Intn(len(behind))]
		}
		for range r.Intn(most + 1) {
			m.Nodes[node].Next = append(m.Nodes[node].Next, behind[r.Intn(len(behind))])
		}
	}
	return anyNumbers(r, m)
}

// P15.1 to P15.3: graphs of any shape, with loops and without.
func TestManyGraphs(t *testing.T) {
	r := rand.New(rand.NewSource(15))
	with, without := 0, 0
	for range 3000 {
		draw := anyGraph
		if r.Intn(3) == 0 {
			draw = anyWays
		}
		if check(t, draw(r, 1+r.Intn(14), 1+r.Intn(4))) > 0 {
			with++
		} else {
			without++
		}
	}
	if with < 1000 || without < 1000 {
		t.Error("hardly any of one side:", with, without)
	}
}

// P15.1 to P15.3: many nodes, with up to 40 ways each.
func TestGreatGraphs(t *testing.T) {
	r := rand.New(rand.NewSource(40))
	for _, most := range []int{1, 2, 3, 6, 40} {
		for range 3 {
			check(t, anyGraph(r, 100+r.Intn(60), most))
			check(t, anyWays(r, 100+r.Intn(60), most))
		}
		m := anyWays(r, 400, most)
		checkLines(t, m, leads(m))
	}
	m := row(150, 40)
	check(t, m)
	m.Nodes[149].Next = upTo(150)
	check(t, m)
}

// P15.3: from one end of a ladder to the other one, both ways, over rungs: many rounds.
func TestLadders(t *testing.T) {
	for _, size := range []int{1, 2, 3, 5, 10, 30} {
		m := api.Model{Nodes: make([]api.Node, 2*size+1)}
		at := func(i, side int) int { return 2*i + side }
		for i := range size {
			for side := range 2 {
				n := api.Node{Catch: -1}
				if i+1 < size {
					n.Next = append(n.Next, at(i+1, side))
				}
				if i > 0 {
					n.Next = append(n.Next, at(i-1, 1-side))
				}
				if i == size-1 {
					n.Catch = at(i, 1-side)
				}
				m.Nodes[at(i, side)] = n
			}
		}
		for _, feet := range [][]int{{0}, {1}, {0, 1}, {0, at(size-1, 1)}, {at(size-1, 0)}, {at(size/2, 0), at(size/2, 1)}} {
			m.Nodes[2*size] = api.Node{Next: feet, Catch: -1}
			check(t, m)
		}
	}
}

// P15.1 to P15.3: other numbers for the nodes give the same answers, but for the order among those that may stand next.
func TestOtherNumbers(t *testing.T) {
	r := rand.New(rand.NewSource(7))
	for range 300 {
		m := anyGraph(r, 2+r.Intn(20), 2)
		number := r.Perm(len(m.Nodes))
		other := api.Model{Nodes: make([]api.Node, len(m.Nodes))}
		for i, to := range leads(m) {
			n := api.Node{Catch: -1, Wait: m.Nodes[i].Wait}
			for _, next := range to {
				n.Next = append(n.Next, number[next])
			}
			other.Nodes[number[i]] = n
		}
		named := func(list []int) []int {
			var all []int
			for _, node := range list {
				all = append(all, number[node])
			}
			slices.Sort(all)
			return all
		}
		sameList(t, "loops", Loops(other), named(Loops(m)))
		for root := range m.Nodes {
			lists := Dominators(other, number[root])
			for i, list := range Dominators(m, root) {
				sameList(t, "dominators", lists[number[i]], named(list))
			}
		}
		a, _ := Longest(m)
		b, _ := Longest(other)
		weights, _ := Weights(m)
		others, _ := Weights(other)
		for i, n := range weights {
			if a != b || others[number[i]] != n {
				t.Fatal(a, b, weights, others)
			}
		}
	}
}

// P15.4: along an edge that counts the order rises and the weight falls, where it isn't at its most.
func TestOrdersRiseAndWeightsFall(t *testing.T) {
	r := rand.New(rand.NewSource(4))
	edges, most := 0, 0
	for range 400 {
		m := anyWays(r, 1+r.Intn(150), 1+r.Intn(20))
		order, isOrder := Order(m)
		weights, areWeights := Weights(m)
		if !isOrder || !areWeights {
			t.Fatal("there is no loop")
		}
		sameList(t, "each once", slices.Sorted(slices.Values(order)), upTo(len(m.Nodes)))
		for _, way := range model.Edges(m) {
			if way.To < 0 || way.To >= len(m.Nodes) {
				continue
			}
			edges++
			if slices.Index(order, way.From) >= slices.Index(order, way.To) {
				t.Fatal("order:", way)
			}
			if weights[way.From] == 1000000000 {
				most++
			} else if weights[way.From] <= weights[way.To] {
				t.Fatal("weights:", way)
			}
		}
	}
	if edges < 10000 || most < 1000 {
		t.Error("hardly any:", edges, most)
	}
}

// P15.1: who is in Loops is reached from himself, as model tells it.
func TestLoopsAreReached(t *testing.T) {
	r := rand.New(rand.NewSource(6))
	for range 1000 {
		m := anyGraph(r, 1+r.Intn(15), 2)
		loops := Loops(m)
		for node := range m.Nodes {
			if slices.Contains(model.Reach(m, node), node) != slices.Contains(loops, node) {
				t.Fatal(node, loops, leads(m))
			}
		}
	}
}

// P15.4: who dominates a dominator dominates; and of two that do, one dominates the other one.
func TestDominatorsOfDominators(t *testing.T) {
	r := rand.New(rand.NewSource(5))
	deep := 0
	for range 600 {
		m := anyGraph(r, 1+r.Intn(20), 1+r.Intn(3))
		root := r.Intn(len(m.Nodes))
		lists := Dominators(m, root)
		reach := model.Reach(m, root)
		for node, list := range lists {
			if come := node == root || slices.Contains(reach, node); come != (len(list) > 0) {
				t.Fatal(node, come, list)
			}
			if len(list) > 0 && (!slices.Contains(list, node) || !slices.Contains(list, root)) {
				t.Fatal(node, root, list)
			}
			deep = max(deep, len(list))
			for _, over := range list {
				for _, higher := range lists[over] {
					if !slices.Contains(list, higher) {
						t.Fatal(node, over, higher)
					}
				}
				for _, another := range list {
					if !slices.Contains(lists[over], another) && !slices.Contains(lists[another], over) {
						t.Fatal(node, over, another)
					}
				}
			}
		}
	}
	if deep < 5 {
		t.Error("never deep:", deep)
	}
}

// P15.1, P15.2: long ways, and long rings, come to an end, and none of them needs much room.
func TestLongWays(t *testing.T) {
	const size = 300000
	for _, by := range []int{1, -1, 7, -7} {
		m := api.Model{Nodes: make([]api.Node, size)}
		for i := range m.Nodes {
			if to := (i + by + size) % size; i%3 == 0 {
				m.Nodes[i] = api.Node{Catch: to, Wait: 2}
			} else {
				m.Nodes[i] = api.Node{Next: []int{to}, Catch: -1, Wait: 2}
			}
		}
		sameList(t, by, Loops(m), upTo(size))
		checkWhetherLoops(t, by, m, true)
		m.Nodes[8] = api.Node{Catch: -1, Wait: 2}
		sameList(t, by, Loops(m), nil)
		order, ok := Order(m)
		if !ok || order[0] != 8+by || order[size-1] != 8 || order[size/2] != (8+by*(size/2+1)%size+size)%size {
			t.Fatal(by, ok, order[:2])
		}
		weights, _ := Weights(m)
		if weights[8] != 1 || weights[8+by] != size {
			t.Error(by, weights[8], weights[8+by])
		}
		if n, ok := Longest(m); n != 2*size || !ok {
			t.Error(by, n, ok)
		}
	}
}

// P15.1 to P15.3: many nodes that lead to one, and one that leads to many.
func TestWideGraphs(t *testing.T) {
	const size = 200000
	m := api.Model{Nodes: make([]api.Node, size)}
	for i := range m.Nodes {
		m.Nodes[i].Catch = size - 1
	}
	m.Nodes[size-1] = api.Node{Catch: -1}
	m.Nodes[size/2].Next = upTo(size / 2)
	order, _ := Order(m)
	if order[0] != size/2 || order[1] != 0 || order[size-1] != size-1 {
		t.Error(order[0], order[1], order[size-1])
	}
	weights, _ := Weights(m)
	if weights[size-1] != 1 || weights[0] != 2 || weights[size/2] != 2+size {
		t.Error(weights[size/2])
	}
	lists := Dominators(m, size/2)
	sameList(t, "of the last", lists[size-1], []int{size / 2, size - 1})
	sameList(t, "of the first", lists[0], []int{0, size / 2})
	sameList(t, "of another", lists[size/2+1], nil)
	m.Nodes[size-1].Next = []int{0}
	sameList(t, "a loop", Loops(m), []int{0, size - 1})
}

// P15.3: of many nodes, from one end to the other.
func TestDominatorsOfLongWays(t *testing.T) {
	const size = 3000
	m := row(size, 2)
	m.Nodes[size-1].Catch = 0
	for i := range size {
		m.Nodes[i].Next = append(m.Nodes[i].Next, i/2, 0)
	}
	for at, list := range Dominators(m, 0) {
		sameList(t, at, list, upTo(at+1))
	}
	for i := range m.Nodes { // from the last one on, down
		m.Nodes[i].Next, m.Nodes[i].Catch = nil, i-1
	}
	for at, list := range Dominators(m, size-1) {
		sameList(t, at, list, upTo(size)[at:])
	}
}
