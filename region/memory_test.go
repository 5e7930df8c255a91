package region

import (
	"fmt"
	"math/rand"
	"slices"
	"testing"

	"bascule/api"
)

// roomy gives each list of ways spare room, in which something stands, and the nodes, too.
func roomy(m api.Model) api.Model {
	nodes := append(slices.Clone(m.Nodes), api.Node{Next: []int{0}, Catch: 0, Wait: 7}, api.Node{})
	for i, n := range m.Nodes {
		nodes[i].Next = append(slices.Clone(n.Next), 0, 1, 2)[:len(n.Next)]
	}
	m.Nodes = nodes[:len(m.Nodes)]
	return m
}

// laid tells a model's nodes with all the room that they have.
func laid(m api.Model) string {
	s := fmt.Sprintf("%+v", m)
	for _, n := range m.Nodes[:cap(m.Nodes)] {
		s += fmt.Sprintf("%+v %v", n, n.Next[:cap(n.Next)])
	}
	return s
}

// all tells all answers.
func all(m api.Model) string {
	order, isOrder := Order(m)
	weights, areWeights := Weights(m)
	longest, isLongest := Longest(m)
	s := fmt.Sprint(Loops(m), order, isOrder, weights, areWeights, longest, isLongest)
	for root := -1; root <= len(m.Nodes); root++ {
		s += fmt.Sprint(Dominators(m, root))
	}
	return s
}

// fill writes a number all over a list, its spare room too.
func fill(list []int, n int) {
	for i := range list[:cap(list)] {
		list[:cap(list)][i] = n
	}
}

// isFull answers whether it still stands all over it.
func isFull(list []int, n int) bool {
	return !slices.ContainsFunc(list[:cap(list)], func(other int) bool { return other != n })
}

// Rules 5, 7: what is handed in stays, its spare room too; answers are new memory, no list of them shares any with another one, and the same is answered again, whatever is done to them.
func TestAnswersAreNew(t *testing.T) {
	r := rand.New(rand.NewSource(3))
	for range 300 {
		m := roomy(anyGraph(r, 1+r.Intn(12), 3))
		if r.Intn(2) == 0 {
			m = roomy(anyWays(r, 1+r.Intn(12), 3))
		}
		before, told := laid(m), all(m)
		order, _ := Order(m)
		weights, _ := Weights(m)
		lists := [][]int{order, weights, Loops(m)}
		for root := range m.Nodes {
			lists = append(lists, Dominators(m, root)...)
		}
		for i, list := range lists {
			fill(list, 100+i)
		}
		for i, list := range lists {
			if !isFull(list, 100+i) {
				t.Fatal("lists share memory")
			}
		}
		if laid(m) != before {
			t.Fatal("what was handed in became another one")
		}
		if again := all(m); again != told {
			t.Fatal("another answer: ", again, told)
		}
	}
}

// Rule 5: lists in the spare room of a list of lists are none of the answer's.
func TestDominatorsHaveNoMoreLists(t *testing.T) {
	m := roomy(read("1 2 | 3 | 3 |"))
	for root := -1; root < 5; root++ {
		lists := Dominators(m, root)
		for _, list := range lists[:cap(lists)][len(lists):] {
			if list != nil {
				t.Error(root, list)
			}
		}
	}
}

// Rule 4: nil and an empty list are one.
func TestNilIsEmpty(t *testing.T) {
	empty := api.Model{Nodes: []api.Node{}, Vars: []api.Var{}}
	if all(empty) != all(api.Model{}) {
		t.Error("a model without nodes:", all(empty))
	}
	m := read("| 2 | ^3 |")
	told := all(m)
	for i, n := range m.Nodes {
		if n.Next == nil {
			m.Nodes[i].Next = []int{}
		}
	}
	if all(m) != told {
		t.Error("empty lists:", all(m))
	}
}

// Rule 5: nodes may have one list of ways together, or parts of one.
func TestSharedWays(t *testing.T) {
	const size = 30
	ways := upTo(size)
	m, own := api.Model{Nodes: make([]api.Node, size)}, api.Model{Nodes: make([]api.Node, size)}
	for i := range m.Nodes {
		m.Nodes[i] = api.Node{Next: ways[i+1:], Catch: -1}
		own.Nodes[i] = api.Node{Next: slices.Clone(ways[i+1:]), Catch: -1}
	}
	if all(m) != all(own) || !slices.Equal(ways, upTo(size)) {
		t.Error("another answer, or other ways")
	}
	check(t, m)
}
