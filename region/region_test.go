package region

import (
	"fmt"
	"math"
	"slices"
	"strconv"
	"strings"
	"testing"

	"bascule/api"
)

// read takes "1 | 2 0 ^2 w7 |" as three nodes: what stands in Next, behind ^ the Catch (-1 where there is none), behind w the Wait. Of "-" there is no node, of "" one.
func read(text string) api.Model {
	var m api.Model
	if text == "-" {
		return m
	}
	for _, part := range strings.Split(text, "|") {
		n := api.Node{Kind: api.NTask, Catch: -1}
		for _, field := range strings.Fields(part) {
			number, err := strconv.Atoi(strings.TrimLeft(field, "^w"))
			if err != nil {
				panic(err)
			}
			switch field[0] {
			case '^':
				n.Catch = number
			case 'w':
				n.Wait = number
			default:
				n.Next = append(n.Next, number)
			}
		}
		m.Nodes = append(m.Nodes, n)
	}
	return m
}

// row answers so many nodes, each with so many ways to the next one.
func row(size, ways int) api.Model {
	m := api.Model{Nodes: make([]api.Node, size)}
	for i := range m.Nodes {
		m.Nodes[i].Catch = -1
		if i < size-1 {
			m.Nodes[i].Next = slices.Repeat([]int{i + 1}, ways)
		}
	}
	return m
}

// upTo answers the numbers below n.
func upTo(n int) []int {
	all := make([]int, n)
	for i := range all {
		all[i] = i
	}
	return all
}

// short tells anything, however much there is in it.
func short(thing any) string {
	s := fmt.Sprint(thing)
	return s[:min(300, len(s))]
}

func sameList(t *testing.T, what any, got, want []int) {
	t.Helper()
	if !slices.Equal(got, want) {
		t.Fatalf("%s: %s, not %s", short(what), short(got), short(want))
	}
}

func sameLists(t *testing.T, what any, got, want [][]int) {
	t.Helper()
	if !slices.EqualFunc(got, want, slices.Equal) {
		t.Fatalf("%s: %s, not %s", short(what), short(got), short(want))
	}
}

// checkOrder asks for a model without loops.
func checkOrder(t *testing.T, text string, want ...int) {
	t.Helper()
	list, ok := Order(read(text))
	if sameList(t, text, list, want); !ok {
		t.Error(text, "has a loop")
	}
}

// checkWeights asks for a model without loops.
func checkWeights(t *testing.T, text string, want ...int) {
	t.Helper()
	list, ok := Weights(read(text))
	if sameList(t, text, list, want); !ok {
		t.Error(text, "has a loop")
	}
}

// checkLongest asks for a model without loops.
func checkLongest(t *testing.T, text string, want int) {
	t.Helper()
	if n, ok := Longest(read(text)); n != want || !ok {
		t.Errorf("%s: %d, %v, not %d", text, n, ok, want)
	}
}

// checkDominators reads lists as "0 | 0 1 |".
func checkDominators(t *testing.T, text string, root int, want string) {
	t.Helper()
	var lists [][]int
	for _, n := range read(want).Nodes {
		lists = append(lists, n.Next)
	}
	sameLists(t, fmt.Sprint(text, " from ", root), Dominators(read(text), root), lists)
}

// checkLoops asks whether all other answers tell of loops, too.
func checkLoops(t *testing.T, text string, want ...int) {
	t.Helper()
	m := read(text)
	sameList(t, text, Loops(m), want)
	checkWhetherLoops(t, text, m, len(want) > 0)
}

// checkWhetherLoops asks what comes beside any loop: none, or 0, and false; and else true.
func checkWhetherLoops(t *testing.T, what any, m api.Model, loops bool) {
	t.Helper()
	order, isOrder := Order(m)
	weights, areWeights := Weights(m)
	longest, isLongest := Longest(m)
	if isOrder == loops || areWeights == loops || isLongest == loops {
		t.Fatalf("%s: loops: %v; told: %v, %v, %v", short(what), loops, isOrder, areWeights, isLongest)
	}
	if loops && (order != nil || weights != nil || longest != 0) {
		t.Fatalf("%s: beside false %v, %v, %v", short(what), order, weights, longest)
	}
}

// The chapter's examples.
func TestExamples(t *testing.T) {
	const square = "1 2 | 3 | 3 |"
	checkOrder(t, square, 0, 1, 2, 3)
	checkWeights(t, square, 5, 2, 2, 1)
	checkDominators(t, square, 0, "0 | 0 1 | 0 2 | 0 3")
	checkLoops(t, square)
}

// P15.1: each node ahead of all that it leads to, the least one of those that may stand next.
func TestOrderPlain(t *testing.T) {
	checkOrder(t, "-")
	checkOrder(t, "", 0)
	checkOrder(t, "||", 0, 1, 2)
	checkOrder(t, "1 |", 0, 1)
	checkOrder(t, "| 0", 1, 0)
	checkOrder(t, "| ^0", 1, 0)
	checkOrder(t, "| 0 0 ^0", 1, 0)
	checkOrder(t, "| 0 | 1", 2, 1, 0)
	checkOrder(t, "| 2 | 0", 1, 2, 0)
	checkOrder(t, "4 | 3 || 0 |", 1, 2, 3, 0, 4)
	checkOrder(t, "||| 0 | 1 |", 2, 3, 0, 4, 1, 5)            // 0 may stand as soon as 3 does, ahead of 4
	checkOrder(t, "3 || 0 | 4 | 1", 2, 0, 3, 4, 1)            // not the least end last
	checkOrder(t, "| 5 ||| 0 2 | 4 3 |", 1, 5, 3, 4, 0, 2, 6) // what comes last may be the least
	checkOrder(t, "| 0 | 0 1 | 0 1 2 | 0 1 2 3", 4, 3, 2, 1, 0)
	checkOrder(t, "| | 1 ^0 | 7 ^9 | -1 3 2", 4, 2, 0, 1, 3)
}

// P15.1: rising, who is reached from himself, and nobody else.
func TestLoopsPlain(t *testing.T) {
	for _, text := range []string{"-", "", "||", "1 |", "| 0", "1 2 | 2 |", "1 ^2 | 2 ^2 |", "-1 ^1", "1 5 ^9", "1 1 1 ^1 | 2 2 |"} {
		checkLoops(t, text)
	}
	checkLoops(t, "0", 0)
	checkLoops(t, "^0", 0)
	checkLoops(t, "0 0 ^0", 0)
	checkLoops(t, "1 | 0", 0, 1)
	checkLoops(t, "1 | ^0", 0, 1)
	checkLoops(t, "^1 | ^0", 0, 1)
	checkLoops(t, "2 | 0 | 1", 0, 1, 2)
	checkLoops(t, "1 | 2 | 0", 0, 1, 2)
	checkLoops(t, "1 | 1", 1)
	checkLoops(t, "0 1 |", 0)
	checkLoops(t, "| | 2", 2)                          // nothing leads there
	checkLoops(t, "1 || 3 | 2", 2, 3)                  // nothing leads there
	checkLoops(t, "3 | 2 || 4 | 3 1", 3, 4)            // one leads into it, two out of it
	checkLoops(t, "1 | 0 2 | 3 | 4 | 3", 0, 1, 3, 4)   // 2 lies between two of them
	checkLoops(t, "4 | 2 | 1 3 | 4 | 4 0", 0, 1, 2, 4) // 3, too
	checkLoops(t, "6 | 5 | | 4 | 3 | 2 | 0", 0, 3, 4, 6)
	checkLoops(t, "1 | 2 0 | 0 3 | 1 | 5 |", 0, 1, 2, 3) // two that share nodes
	checkLoops(t, "1 | -1 9 ^0", 0, 1)
	checkLoops(t, "1 | 2 ^9 -3 0", 0, 1)
}

// P15.1, P15.2: what leads to no node doesn't count, wherever it leads.
func TestWaysToNoNode(t *testing.T) {
	for _, to := range []int{-1, -2, -1000, math.MinInt, math.MinInt32, 3, 4, 1000, math.MaxInt32, math.MaxInt, math.MaxInt - 1} {
		for _, catch := range []bool{false, true} {
			m := read("1 | 2 w5 | w7")
			for i := range m.Nodes {
				if catch {
					m.Nodes[i].Catch = to
				} else {
					m.Nodes[i].Next = append([]int{to, to}, m.Nodes[i].Next...)
				}
			}
			order, ok := Order(m)
			if sameList(t, to, order, []int{0, 1, 2}); !ok {
				t.Error(to, "makes a loop")
			}
			weights, _ := Weights(m)
			sameList(t, to, weights, []int{3, 2, 1})
			if n, ok := Longest(m); n != 12 || !ok {
				t.Error(to, "makes a wait of", n, ok)
			}
			sameList(t, to, Loops(m), nil)
			sameLists(t, to, Dominators(m, 0), [][]int{{0}, {0, 1}, {0, 1, 2}})
			sameLists(t, to, Dominators(m, 2), [][]int{nil, nil, {2}})
		}
	}
}

// P15.2: 1, and what its edges lead to, each as often as it stands.
func TestWeightsPlain(t *testing.T) {
	checkWeights(t, "-")
	checkWeights(t, "", 1)
	checkWeights(t, "||", 1, 1, 1)
	checkWeights(t, "1 |", 2, 1)
	checkWeights(t, "| 0", 1, 2)
	checkWeights(t, "1 1 |", 3, 1)
	checkWeights(t, "1 ^1 |", 3, 1)
	checkWeights(t, "^1 |", 2, 1)
	checkWeights(t, "1 1 1 1 1 ^1 |", 7, 1)
	checkWeights(t, "1 2 1 ^2 | 2 ^2 |", 1+3+1+3+1, 3, 1)
	checkWeights(t, "| 0 | 1 0 | 2 1 0", 1, 2, 4, 8)
	checkWeights(t, "9 -1 ^1 | -2 ^2", 2, 1)
	checkWeights(t, "2 || 3 |", 3, 1, 2, 1)
}

// weighing answers a model of which the last node, the only one to which nothing leads, has a weight, were there no most: the weights of the 30 ahead of it are the powers of two.
func weighing(weight int) (m api.Model, last int) {
	const powers = 30
	for i := range powers {
		m.Nodes = append(m.Nodes, api.Node{Catch: -1, Next: upTo(i)})
	}
	top := api.Node{Catch: -1}
	for i := range powers {
		if (weight-1)>>i&1 == 1 {
			top.Next = append(top.Next, i)
		}
	}
	m.Nodes = append(m.Nodes, top)
	return m, powers
}

// P15.2: weights that come to 10^9, to less and to more: there they stay.
func TestWeightsAtTheirMost(t *testing.T) {
	const most = 1000000000
	for _, weight := range []int{1, 2, 536870912, most - 1000, most - 2, most - 1, most, most + 1, most + 2, most + 1000, 1 << 30} {
		m, last := weighing(weight)
		list, ok := Weights(m)
		if !ok || len(list) != last+1 || list[0] != 1 || list[last-1] != 1<<29 || list[last] != min(weight, most) {
			t.Fatal(weight, list, ok)
		}
		for _, lead := range []api.Node{{Catch: last}, {Next: []int{last}, Catch: -1}, {Next: []int{0, last}, Catch: -1}, {Next: []int{last, last}, Catch: last}, {Next: slices.Repeat([]int{last}, 50), Catch: 0}} {
			longer := m
			longer.Nodes = append(slices.Clone(m.Nodes), lead)
			want := 1
			for _, to := range append(slices.Clone(lead.Next), lead.Catch) {
				if to >= 0 {
					want += list[to]
				}
			}
			list, _ := Weights(longer)
			if got := list[last+1]; got != min(want, most) {
				t.Error(weight, lead.Next, lead.Catch, got)
			}
		}
	}
}

// P15.2: a row of nodes, each with several ways to the next one.
func TestWeightsOfRows(t *testing.T) {
	for _, c := range []struct{ size, ways int }{{1, 6}, {2, 6}, {12, 6}, {13, 6}, {14, 6}, {40, 6}, {31, 2}, {200, 2}, {150, 40}, {3000, 1}, {20000, 6}, {2, 200000}} {
		list, ok := Weights(row(c.size, c.ways))
		if !ok || len(list) != c.size {
			t.Fatal(c, ok)
		}
		want := 1
		for i := range list {
			if got := list[c.size-1-i]; got != want {
				t.Fatal(c, c.size-1-i, got, want)
			}
			want = min(1+c.ways*want, 1000000000)
		}
	}
	list, _ := Weights(row(14, 6))
	sameList(t, "six ways", list, []int{1000000000, 1000000000, 435356467, 72559411, 12093235, 2015539, 335923, 55987, 9331, 1555, 259, 43, 7, 1})
}

// P15.2: the greatest sum along a way, wherever it begins and ends.
func TestLongestPlain(t *testing.T) {
	checkLongest(t, "-", 0)
	checkLongest(t, "", 0)
	checkLongest(t, "w7", 7)
	checkLongest(t, "w7 | w9 | w8", 9)
	checkLongest(t, "1 w7 | w9", 16)
	checkLongest(t, "^1 w7 | w9", 16)
	checkLongest(t, "1 1 ^1 w7 | w9", 16) // each node once, however many edges lead there
	checkLongest(t, "w7 | 0 w9", 16)
	checkLongest(t, "1 2 w1 | 3 w4 | 3 w5 | w1", 7)
	checkLongest(t, "1 2 w1 | 3 w5 | 3 w4 | w1", 7)
	checkLongest(t, "1 3 w1 | 2 w2 | 3 w2 | w1", 6)
	checkLongest(t, "1 3 w1 | 2 w2 | w9 | w1", 12)
	checkLongest(t, "1 | 2 w9 | | 4 w5 | w5", 10) // what begins elsewhere
	checkLongest(t, "1 w3 ^2 | w4 | w6", 9)
	checkLongest(t, "1 w3 -1 9 ^7 | w4", 7)
}

// P15.2: only what is 0 to 1000 is counted, but the way goes on over the node.
func TestLongestCountsWaits(t *testing.T) {
	for wait, counted := range map[int]int{0: 0, 1: 1, 2: 2, 999: 999, 1000: 1000, 1001: 0, 1002: 0, 10000: 0, -1: 0, -1000: 0, math.MinInt: 0, math.MaxInt: 0, math.MinInt32: 0, math.MaxInt32: 0} {
		for _, c := range []struct {
			text     string
			at, more int
		}{{"", 0, 0}, {"1 | w5", 0, 5}, {"| 0 w5", 0, 5}, {"1 w6 | 2 | w5", 1, 11}, {"2 w6 | w5 | ^1", 2, 11}, {"1 2 w6 | 3 | 3 | w5", 2, 11}} {
			m := read(c.text)
			m.Nodes[c.at].Wait = wait
			if n, ok := Longest(m); n != c.more+counted || !ok {
				t.Error(c.text, wait, n, ok)
			}
		}
		m := read("1 2 w6 | w400 | 3 | w5") // it is as long as the longer one of two ways
		m.Nodes[2].Wait = wait
		if n, ok := Longest(m); n != max(406, 11+counted) || !ok {
			t.Error(wait, n, ok)
		}
	}
	m := row(5000, 2)
	for i := range m.Nodes {
		m.Nodes[i].Wait = 1000 + i%2
	}
	if n, ok := Longest(m); n != 2500*1000 || !ok {
		t.Error("a long row:", n, ok)
	}
}

// P15.1, P15.2: beside any loop none, or 0, and false, wherever the loop is.
func TestBesideLoops(t *testing.T) {
	for _, text := range []string{"0 w5", "^0 w5", "1 w5 | 0 w5", "1 w5 | 1", "0 w1 | w9", "w9 | 1", "1 w9 | 2 w8 ||  4 | 3", "1 | 2 | 1 ^3 |", "1 | 2 | 3 | 4 | ^0 w3"} {
		m := read(text)
		checkWhetherLoops(t, text, m, true)
		if len(Loops(m)) == 0 {
			t.Error(text)
		}
	}
	for _, size := range []int{1, 2, 3, 40, 1000} { // it ends with any one of its edges
		m := row(size, 1)
		checkWhetherLoops(t, size, m, false)
		m.Nodes[size-1].Catch = 0
		checkWhetherLoops(t, size, m, true)
		sameList(t, size, Loops(m), upTo(size))
		m.Nodes[size/2] = api.Node{Catch: -1}
		checkWhetherLoops(t, size, m, false)
		sameList(t, size, Loops(m), nil)
	}
}

// P15.3: what all ways from the root lead over.
func TestDominatorsPlain(t *testing.T) {
	checkDominators(t, "", 0, "0")
	checkDominators(t, "0", 0, "0")
	checkDominators(t, "||", 1, "| 1 |")
	checkDominators(t, "1 |", 0, "0 | 0 1")
	checkDominators(t, "1 |", 1, "| 1")
	checkDominators(t, "^1 |", 0, "0 | 0 1")
	checkDominators(t, "| 0", 1, "0 1 | 1") // rising, not in the way's order
	checkDominators(t, "1 | 0", 0, "0 | 0 1")
	checkDominators(t, "1 | 0", 1, "0 1 | 1") // the root is reached from itself, and stands alone
	checkDominators(t, "3 || 1 | 2", 0, "0 | 0 1 2 3 | 0 2 3 | 0 3")
	checkDominators(t, "1 2 | 3 | 3 |", 0, "0 | 0 1 | 0 2 | 0 3")
	checkDominators(t, "1 2 | 3 | 3 |", 1, "| 1 || 1 3")
	checkDominators(t, "1 ^2 | 3 | 3 | 4 |", 0, "0 | 0 1 | 0 2 | 0 3 | 0 3 4")
	checkDominators(t, "1 | 2 ^2 | 3 3 |", 0, "0 | 0 1 | 0 1 2 | 0 1 2 3")
	checkDominators(t, "1 2 | 3 | 4 || 5 |", 0, "0 | 0 1 | 0 2 | 0 1 3 | 0 2 4 | 0 2 4 5")
	checkDominators(t, "| | 1", 0, "0 | |") // what leads to others isn't reached
	checkDominators(t, "1 | | 1", 0, "0 | 0 1 |")
	checkDominators(t, "1 || 1 0", 0, "0 | 0 1 |") // an edge from what isn't reached is no way
	checkDominators(t, "-1 1 9 ^4 | 7", 0, "0 | 0 1")
}

// P15.3: ways round loops.
func TestDominatorsRoundLoops(t *testing.T) {
	checkDominators(t, "1 | 2 3 | 1 |", 0, "0 | 0 1 | 0 1 2 | 0 1 3")
	checkDominators(t, "1 | 2 | 1 0 3 |", 0, "0 | 0 1 | 0 1 2 | 0 1 2 3")
	checkDominators(t, "1 2 | 2 | 1", 0, "0 | 0 1 | 0 2") // a loop with two ways in
	checkDominators(t, "1 2 | 2 3 | 1 4 | |", 0, "0 | 0 1 | 0 2 | 0 1 3 | 0 2 4")
	checkDominators(t, "1 2 | 3 | 4 | 4 | 3 5 |", 0, "0 | 0 1 | 0 2 | 0 3 | 0 4 | 0 4 5")
	checkDominators(t, "4 3 | 2 | 1 3 | 2 | 1", 0, "0 | 0 1 | 0 2 | 0 3 | 0 4") // what is late lifts what is ahead of it, round by round
	checkDominators(t, "1 2 3 | 4 | 5 | 6 | 5 | 4 6 | 5", 0, "0 | 0 1 | 0 2 | 0 3 | 0 4 | 0 5 | 0 6")
	checkDominators(t, "1 | 1 2 | 2 1", 0, "0 | 0 1 | 0 1 2")
}

// P15.3: as many lists as nodes, all of them empty, if the root is no node.
func TestDominatorsFromNoNode(t *testing.T) {
	for _, text := range []string{"-", "", "0", "1 |", "2 ^-1 | 3 ^3 | -1", "1 | 2 | 0"} {
		m := read(text)
		size := len(m.Nodes)
		for _, root := range []int{-1, -2, -1000, math.MinInt, math.MinInt32, size, size + 1, size + 1000, math.MaxInt32, math.MaxInt} {
			sameLists(t, []any{text, root}, Dominators(m, root), make([][]int, size))
		}
	}
}

// P15.1 to P15.3: a node's kind, and whatever else it has, changes nothing; nor is a model asked to be well formed.
func TestKindsChangeNothing(t *testing.T) {
	plain, round := read("3 1 ^4 w5 | 4 w3 || 1 w9 | w2"), read("1 | 2 ^0 | 3 1 |")
	order, _ := Order(plain)
	weights, _ := Weights(plain)
	longest, _ := Longest(plain)
	dominators, loops := Dominators(round, 0), Loops(round)
	for kind := -2; kind < 17; kind++ {
		for _, m := range []*api.Model{&plain, &round} {
			for i, n := range m.Nodes {
				m.Nodes[i] = api.Node{Kind: kind, Next: n.Next, Catch: n.Catch, Wait: n.Wait, Label: -3, Var: 9, Msg: 77, From: 5, Conds: make([]api.Expr, 2), Expr: api.Expr{Kind: 99}}
			}
			m.Labels = kind
			m.Order = [][2]int{{5, 5}}
			m.Vars = make([]api.Var, 40)
		}
		newOrder, _ := Order(plain)
		newWeights, _ := Weights(plain)
		sameList(t, kind, newOrder, order)
		sameList(t, kind, newWeights, weights)
		if n, ok := Longest(plain); n != longest || !ok {
			t.Error(kind, n, ok)
		}
		sameLists(t, kind, Dominators(round, 0), dominators)
		sameList(t, kind, Loops(round), loops)
		checkWhetherLoops(t, kind, round, true)
	}
	sameList(t, "order", order, []int{0, 2, 3, 1, 4})
	sameList(t, "weights", weights, []int{1 + 3 + 2 + 1, 2, 1, 3, 1})
	sameList(t, "loops", loops, []int{0, 1, 2})
	if longest != 5+9+3+2 {
		t.Error(longest)
	}
}
