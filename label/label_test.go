package label

import (
	"math"
	"math/rand"
	"slices"
	"testing"

	"bascule/api"
	"bascule/lattice"
)

type pairs = [][2]int

var diamond = pairs{{0, 1}, {0, 2}, {1, 3}, {2, 3}}

// nowhere are numbers that are no label of any lattice, and no thing of a few.
var nowhere = []int{math.MinInt, -1, 8, 64, math.MaxInt}

func mustMake(t *testing.T, n int, order pairs) *lattice.Lattice {
	t.Helper()
	l, e := lattice.Make(n, order)
	if e != api.OK {
		t.Fatalf("Make(%d, %v): %d", n, order, e)
	}
	return l
}

func chain(n int) pairs {
	var order pairs
	for a := 1; a < n; a++ {
		order = append(order, [2]int{a - 1, a})
	}
	return order
}

// shapes are lattices with many kinds of order, the bottom and the top at any number.
func shapes(t *testing.T) []*lattice.Lattice {
	t.Helper()
	var cube pairs
	for a := range 8 {
		for _, b := range []int{1, 2, 4} {
			cube = append(cube, [2]int{a, a | b})
		}
	}
	return []*lattice.Lattice{
		mustMake(t, 1, nil),
		mustMake(t, 2, pairs{{0, 1}}),
		mustMake(t, 2, pairs{{1, 0}}),
		mustMake(t, 3, pairs{{1, 2}, {2, 0}}),
		mustMake(t, 4, diamond),
		mustMake(t, 4, pairs{{2, 1}, {2, 3}, {1, 0}, {3, 0}}),
		mustMake(t, 5, pairs{{0, 1}, {0, 2}, {0, 3}, {1, 4}, {2, 4}, {3, 4}}),
		mustMake(t, 5, pairs{{0, 1}, {1, 2}, {2, 4}, {0, 3}, {3, 4}}),
		mustMake(t, 8, chain(8)),
		mustMake(t, 8, cube),
		mustMake(t, 8, pairs{{6, 0}, {6, 1}, {6, 2}, {6, 3}, {6, 4}, {6, 5}, {0, 7}, {1, 7}, {2, 7}, {3, 7}, {4, 7}, {5, 7}}),
	}
}

func randomList(r *rand.Rand, n, longest int) []int {
	list := make([]int, r.Intn(longest+1))
	for i := range list {
		list[i] = r.Intn(n)
	}
	return list
}

func randomEdges(r *rand.Rand, things, most int) pairs {
	if things == 0 {
		return nil
	}
	edges := make(pairs, r.Intn(most+1))
	for i := range edges {
		edges[i] = [2]int{r.Intn(things), r.Intn(things)}
	}
	return edges
}

// bound is the label that is at or beyond all in the list, and within all labels that are, as the document says it; within is Leq, or Leq turned.
func bound(l *lattice.Lattice, list []int, within func(a, b int) bool) int {
	beyond := func(c int) bool {
		return !slices.ContainsFunc(list, func(a int) bool { return !within(a, c) })
	}
	for c := range l.Size() {
		least := beyond(c)
		for d := range l.Size() {
			least = least && (!beyond(d) || within(c, d))
		}
		if least {
			return c
		}
	}
	return -1
}

func checkAll(t *testing.T, l *lattice.Lattice, list []int, join, meet int, want api.Errno) {
	t.Helper()
	if j, e := JoinAll(l, list); j != join || e != want {
		t.Errorf("JoinAll of %d labels, %v: %d, %d, not %d, %d", l.Size(), list, j, e, join, want)
	}
	if m, e := MeetAll(l, list); m != meet || e != want {
		t.Errorf("MeetAll of %d labels, %v: %d, %d, not %d, %d", l.Size(), list, m, e, meet, want)
	}
}

func checkRaise(t *testing.T, l *lattice.Lattice, edges pairs, low, want []int, e api.Errno) {
	t.Helper()
	got, err := Raise(l, edges, low)
	if !slices.Equal(got, want) || err != e {
		t.Errorf("Raise of %d labels, %v, %v: %v, %d, not %v, %d", l.Size(), edges, low, got, err, want, e)
	}
}

func TestExamples(t *testing.T) {
	l := mustMake(t, 4, diamond)
	checkAll(t, l, []int{1, 2}, 3, 0, api.OK)
	if got := Visible(l, 1, []int{0, 2, 1, 3}); !slices.Equal(got, []int{0, 2}) {
		t.Error("Visible:", got)
	}
	checkRaise(t, l, pairs{{0, 1}, {1, 2}}, []int{0, 2, 1}, []int{0, 2, 3}, api.OK)
}

// P2.1, against the document's words.
func TestAllOfMany(t *testing.T) {
	r := rand.New(rand.NewSource(1))
	for _, l := range shapes(t) {
		geq := func(a, b int) bool { return l.Leq(b, a) }
		checkAll(t, l, nil, l.Bottom(), l.Top(), api.OK)
		checkAll(t, l, []int{}, l.Bottom(), l.Top(), api.OK)
		for a := range l.Size() {
			checkAll(t, l, []int{a}, a, a, api.OK)
		}
		for range 300 {
			list := randomList(r, l.Size(), 12)
			checkAll(t, l, list, bound(l, list, l.Leq), bound(l, list, geq), api.OK)
		}
	}
}

// P2.1: what is no label, wherever it stands, whatever all others come to.
func TestAllNoLabel(t *testing.T) {
	for _, l := range shapes(t) {
		for _, no := range append([]int{l.Size()}, nowhere...) {
			for _, list := range [][]int{{no}, {no, l.Top()}, {l.Top(), no}, {l.Bottom(), no}, {l.Top(), no, l.Bottom()}, {no, no}} {
				checkAll(t, l, list, 0, 0, api.ErrRange)
			}
		}
	}
}

// P2.1: no lattice, said ahead of all else that is wrong.
func TestNoLattice(t *testing.T) {
	for _, list := range [][]int{nil, {}, {0}, {0, 1}, {-1}, {8}} {
		checkAll(t, nil, list, 0, 0, api.ErrNil)
		checkRaise(t, nil, nil, list, nil, api.ErrNil)
		checkRaise(t, nil, pairs{{0, 0}}, list, nil, api.ErrNil)
		checkRaise(t, nil, pairs{{-1, 9}}, list, nil, api.ErrNil)
		for _, level := range []int{-1, 0, 1, 8} {
			if len(Visible(nil, level, list)) != 0 || len(High(nil, level)) != 0 {
				t.Error("something is seen without a lattice:", level, list)
			}
		}
	}
}

// A Lattice that Make didn't make has no labels.
func TestNoLabels(t *testing.T) {
	l := &lattice.Lattice{}
	checkAll(t, l, nil, 0, 0, api.OK)
	checkAll(t, l, []int{0}, 0, 0, api.ErrRange)
	checkRaise(t, l, nil, nil, nil, api.OK)
	checkRaise(t, l, nil, []int{0}, nil, api.ErrRange)
	checkRaise(t, l, pairs{{0, 0}}, nil, nil, api.ErrRange)
	if len(Visible(l, 0, []int{0})) != 0 || len(High(l, 0)) != 0 {
		t.Error("something is seen without labels")
	}
}

// P2.2: a list has labels and others side by side, and so have the levels.
func TestSeen(t *testing.T) {
	r := rand.New(rand.NewSource(2))
	for _, l := range shapes(t) {
		n := l.Size()
		levels := append([]int{n}, nowhere...)
		for a := range n {
			levels = append(levels, a)
		}
		for _, level := range levels {
			var high []int
			for a := range n {
				if level < 0 || level >= n || !slices.Contains(l.Below(level), a) {
					high = append(high, a)
				}
			}
			if got := High(l, level); !slices.Equal(got, high) {
				t.Errorf("High of %d labels at %d: %v, not %v", n, level, got, high)
			}
			list := randomList(r, n, 20)
			for range 4 {
				list = slices.Insert(list, r.Intn(len(list)+1), levels[r.Intn(len(levels))])
			}
			var places []int
			for i, a := range list {
				if slices.Contains(l.Below(level), a) {
					places = append(places, i)
				}
			}
			if got := Visible(l, level, list); !slices.Equal(got, places) {
				t.Errorf("Visible of %d labels at %d, %v: %v, not %v", n, level, list, got, places)
			}
			if len(Visible(l, level, nil)) != 0 {
				t.Error("of none, some are seen")
			}
		}
	}
}

// raised tells whether labels are what P2.3 allows, least or not.
func raised(l *lattice.Lattice, edges pairs, low, labels []int) bool {
	for i, a := range labels {
		if !l.Leq(low[i], a) {
			return false
		}
	}
	for _, edge := range edges {
		if !l.Leq(labels[edge[0]], labels[edge[1]]) {
			return false
		}
	}
	return true
}

// everyLabels goes through all ways of giving n things labels.
func everyLabels(l *lattice.Lattice, n int, each func(labels []int)) {
	labels := make([]int, n)
	for {
		each(labels)
		i := 0
		for i < n && labels[i] == l.Size()-1 {
			labels[i] = 0
			i++
		}
		if i == n {
			return
		}
		labels[i]++
	}
}

// P2.3, as its words say it: what is answered may be so, and no other labels that may have one that isn't at or above.
func TestRaiseLeast(t *testing.T) {
	r := rand.New(rand.NewSource(3))
	for _, l := range shapes(t) {
		for range 40 {
			low := randomList(r, l.Size(), 3)
			edges := randomEdges(r, len(low), 6)
			got, e := Raise(l, edges, low)
			if e != api.OK || len(got) != len(low) || !raised(l, edges, low, got) {
				t.Fatalf("%d labels, %v, %v: %v, %d", l.Size(), edges, low, got, e)
			}
			everyLabels(l, len(low), func(labels []int) {
				if !raised(l, edges, low, labels) {
					return
				}
				for i, a := range labels {
					if !l.Leq(got[i], a) {
						t.Fatalf("%d labels, %v, %v: %v, but %v may be", l.Size(), edges, low, got, labels)
					}
				}
			})
		}
	}
}

// joined is what P2.3 comes to: of each thing, the join of all from which edges lead to it.
func joined(l *lattice.Lattice, edges pairs, low []int) []int {
	leads := make([][]bool, len(low))
	for i := range leads {
		leads[i] = make([]bool, len(low))
		leads[i][i] = true
	}
	for _, edge := range edges {
		leads[edge[0]][edge[1]] = true
	}
	for between := range low {
		for from := range low {
			for to := range low {
				leads[from][to] = leads[from][to] || leads[from][between] && leads[between][to]
			}
		}
	}
	labels := make([]int, len(low))
	for to := range low {
		var list []int
		for from := range low {
			if leads[from][to] {
				list = append(list, low[from])
			}
		}
		labels[to] = bound(l, list, l.Leq)
	}
	return labels
}

// P2.3 on more things, with loops, edges that stand more than once, and edges to the thing itself; P2.4 of each.
func TestRaiseMany(t *testing.T) {
	r := rand.New(rand.NewSource(4))
	for _, l := range shapes(t) {
		for range 100 {
			low := randomList(r, l.Size(), 30)
			edges := randomEdges(r, len(low), 60)
			want := joined(l, edges, low)
			checkRaise(t, l, edges, low, want, api.OK)
			checkRaise(t, l, edges, want, want, api.OK)
			r.Shuffle(len(edges), func(i, j int) { edges[i], edges[j] = edges[j], edges[i] })
			checkRaise(t, l, edges, low, want, api.OK)
			checkSeenFrom(t, l, edges, want)
		}
	}
}

// checkSeenFrom holds P2.4: whoever sees a thing sees all that an edge leads from.
func checkSeenFrom(t *testing.T, l *lattice.Lattice, edges pairs, labels []int) {
	t.Helper()
	for level := range l.Size() {
		seen := Visible(l, level, labels)
		for _, edge := range edges {
			if slices.Contains(seen, edge[1]) && !slices.Contains(seen, edge[0]) {
				t.Errorf("at %d, %v: %d is seen, %d isn't", level, labels, edge[1], edge[0])
			}
		}
	}
}

func TestRaiseEdges(t *testing.T) {
	l := mustMake(t, 4, diamond)
	for _, c := range []struct {
		name      string
		edges     pairs
		low, want []int
	}{
		{"nothing", nil, nil, nil},
		{"empty lists", pairs{}, []int{}, nil},
		{"no edges", nil, []int{3, 0, 2, 1}, []int{3, 0, 2, 1}},
		{"to itself", pairs{{0, 0}}, []int{1}, []int{1}},
		{"along, not back", pairs{{0, 1}}, []int{0, 3}, []int{0, 3}},
		{"side by side", pairs{{0, 1}}, []int{1, 2}, []int{1, 3}},
		{"twice", pairs{{0, 1}, {0, 1}}, []int{2, 0}, []int{2, 2}},
		{"a row, last edge first", pairs{{2, 3}, {1, 2}, {0, 1}}, []int{2, 0, 0, 0}, []int{2, 2, 2, 2}},
		{"a row, down the numbers", pairs{{3, 2}, {2, 1}, {1, 0}}, []int{0, 0, 0, 1}, []int{1, 1, 1, 1}},
		{"a loop", pairs{{0, 1}, {1, 2}, {2, 0}}, []int{0, 1, 2}, []int{3, 3, 3}},
		{"two from one", pairs{{0, 1}, {0, 2}}, []int{1, 0, 2}, []int{1, 1, 3}},
		{"one from two", pairs{{0, 2}, {1, 2}}, []int{1, 2, 0}, []int{1, 2, 3}},
		{"a loop that rises late", pairs{{0, 1}, {1, 0}, {2, 1}, {3, 2}}, []int{1, 0, 0, 2}, []int{3, 3, 2, 2}},
	} {
		t.Run(c.name, func(t *testing.T) { checkRaise(t, l, c.edges, c.low, c.want, api.OK) })
	}
}

// P2.3: what is no label, and what is no thing, at either end of any edge.
func TestRaiseWrong(t *testing.T) {
	for _, l := range shapes(t) {
		top, n := l.Top(), l.Size()
		for _, no := range append([]int{n}, nowhere...) {
			checkRaise(t, l, nil, []int{no}, nil, api.ErrRange)
			checkRaise(t, l, nil, []int{no, top}, nil, api.ErrRange)
			checkRaise(t, l, pairs{{0, 1}}, []int{top, no}, nil, api.ErrRange)
		}
		for _, no := range append([]int{2, 3}, nowhere...) {
			for _, edge := range (pairs{{no, 0}, {0, no}, {no, 1}, {1, no}, {no, no}}) {
				checkRaise(t, l, pairs{edge}, []int{top, top}, nil, api.ErrRange)
				checkRaise(t, l, pairs{{0, 1}, edge}, []int{top, 0}, nil, api.ErrRange)
				checkRaise(t, l, pairs{edge, {0, 1}}, []int{top, 0}, nil, api.ErrRange)
			}
		}
		checkRaise(t, l, pairs{{0, 0}}, nil, nil, api.ErrRange)
		checkRaise(t, l, pairs{{0, 0}}, []int{}, nil, api.ErrRange)
	}
}

// Rule 1: many things come to an end, and soon, whatever the order of the edges, though each thing may rise again and again.
func TestRaiseLong(t *testing.T) {
	const things = 200000
	l := mustMake(t, 8, chain(8))
	low, down := make([]int, things), make([]int, things)
	var forth, back, star pairs
	for i := range things {
		low[i] = i * 8 / things
		down[things-1-i] = low[i]
		star = append(star, [2]int{i, 0})
		if i > 0 {
			forth = append(forth, [2]int{i - 1, i})
			back = append(back, [2]int{i, i - 1})
		}
	}
	turned := slices.Clone(back)
	slices.Reverse(turned)
	top := slices.Repeat([]int{7}, things)
	for _, c := range []struct {
		name      string
		edges     pairs
		low, want []int
	}{
		{"a row that rises already", forth, low, low},
		{"a row that falls", forth, down, top},
		{"a row down the numbers", back, low, top},
		{"the same, the last edge first", turned, low, top},
		{"a loop", append(slices.Clone(forth), [2]int{things - 1, 0}), low, top},
		{"there and back", slices.Concat(back, forth), low, top},
		{"all to one", star, low, append([]int{7}, low[1:]...)},
	} {
		got, e := Raise(l, c.edges, c.low)
		if e != api.OK || !slices.Equal(got, c.want) {
			t.Error(c.name, "came to something else:", e)
		}
	}
}

// Rule 5: what is handed in stays, its spare room too, and isn't kept; what is answered is new.
func TestMemory(t *testing.T) {
	l := mustMake(t, 4, diamond)
	lows := []int{0, 2, 1, 9, 9}
	ways := pairs{{0, 1}, {1, 2}, {7, 7}}
	low, edges := lows[:3], ways[:2]
	first, _ := Raise(l, edges, low)
	JoinAll(l, low)
	MeetAll(l, low)
	seen, high := Visible(l, 1, low), High(l, 1)
	if !slices.Equal(lows, []int{0, 2, 1, 9, 9}) || !slices.Equal(ways, pairs{{0, 1}, {1, 2}, {7, 7}}) {
		t.Error("changed:", lows, ways)
	}
	for _, list := range [][]int{first, seen, high} {
		list = list[:cap(list)]
		for i := range list {
			list[i] = 7
		}
	}
	if !slices.Equal(lows, []int{0, 2, 1, 9, 9}) {
		t.Error("shared:", lows)
	}
	same, _ := Raise(l, nil, low)
	same[0] = 3
	if low[0] != 0 {
		t.Error("shared, where nothing rises:", low)
	}
	if !slices.Equal(Visible(l, 1, low), []int{0, 2}) || !slices.Equal(High(l, 1), []int{2, 3}) {
		t.Error("kept:", Visible(l, 1, low), High(l, 1))
	}
	checkRaise(t, l, edges, low, []int{0, 2, 3}, api.OK)
}
