package region

import (
	"container/heap"
	"slices"
	"sort"

	"bascule/api"
	"bascule/model"
)

// graph is a model's edges that count: for each node what they lead to, and where those into it come from, as often as they stand.
type graph struct{ out, into [][]int }

func graphOf(m api.Model) graph {
	g := graph{out: make([][]int, len(m.Nodes)), into: make([][]int, len(m.Nodes))}
	for _, way := range model.Edges(m) {
		if isNode(m, way.To) {
			g.out[way.From] = append(g.out[way.From], way.To)
			g.into[way.To] = append(g.into[way.To], way.From)
		}
	}
	return g
}

// order takes a node once all edges into it come from nodes that were taken: on a loop, and behind one, none ever is.
func (g graph) order() (list []int, ok bool) {
	left := make([]int, len(g.into))
	next := &queue{}
	for node, from := range g.into {
		left[node] = len(from)
		if left[node] == 0 {
			heap.Push(next, node)
		}
	}
	for next.Len() > 0 {
		node := heap.Pop(next).(int)
		list = append(list, node)
		for _, to := range g.out[node] {
			left[to]--
			if left[to] == 0 {
				heap.Push(next, to)
			}
		}
	}
	if len(list) < len(g.into) {
		return nil, false
	}
	return list, true
}

// queue is a heap of numbers, of which the least one comes out first.
type queue struct{ sort.IntSlice }

// Push is heap.Push's.
func (q *queue) Push(n any) {
	q.IntSlice = append(q.IntSlice, n.(int))
}

// Pop is heap.Pop's.
func (q *queue) Pop() any {
	last := q.Len() - 1
	n := q.IntSlice[last]
	q.IntSlice = q.IntSlice[:last]
	return n
}

// pieces parts the nodes: those that are reached from one another are of one piece. To the piece of the node that is left last no other one leads, so that a walk back from there stays in it; likewise among the nodes that remain.
func (g graph) pieces() [][]int {
	var left []int
	there, back := newWalk(g.out), newWalk(g.into)
	for node := range g.out {
		left = append(left, there.from(node)...)
	}
	var pieces [][]int
	for _, node := range slices.Backward(left) {
		if piece := back.from(node); len(piece) > 0 {
			pieces = append(pieces, piece)
		}
	}
	return pieces
}

// walk goes through a graph in depth; what it met once it doesn't come to again.
type walk struct {
	met  []bool
	open [][]int // for each node the ways out of it that weren't gone yet
}

func newWalk(out [][]int) walk {
	return walk{met: make([]bool, len(out)), open: slices.Clone(out)}
}

// from answers the nodes that it comes to newly, root among them, each as it is left: behind all that it was come to over.
func (w walk) from(root int) []int {
	if w.met[root] {
		return nil
	}
	w.met[root] = true
	var left []int
	for stack := []int{root}; len(stack) > 0; {
		node := stack[len(stack)-1]
		ways := w.open[node]
		if len(ways) == 0 {
			left = append(left, node)
			stack = stack[:len(stack)-1]
			continue
		}
		w.open[node] = ways[1:]
		if to := ways[0]; !w.met[to] {
			w.met[to] = true
			stack = append(stack, to)
		}
	}
	return left
}
