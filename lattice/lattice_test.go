package lattice

import (
	"math"
	"math/rand"
	"slices"
	"testing"

	"bascule/api"
)

type pairs = [][2]int

var diamond = pairs{{0, 1}, {0, 2}, {1, 3}, {2, 3}}

func mustMake(t *testing.T, n int, order pairs) *Lattice {
	t.Helper()
	l, e := Make(n, order)
	if l == nil || e != api.OK {
		t.Fatalf("Make(%d, %v): %v, %d", n, order, l, e)
	}
	return l
}

func mustRefuse(t *testing.T, n int, order pairs, want api.Errno) {
	t.Helper()
	l, e := Make(n, order)
	if l != nil || e != want {
		t.Errorf("Make(%d, %v): %v, %d, not nil, %d", n, order, l, e, want)
	}
}

// chain is the order in which each label is below the next one; linked alone, so that the rest must be closed.
func chain(n int) pairs {
	var order pairs
	for a := 1; a < n; a++ {
		order = append(order, [2]int{a - 1, a})
	}
	return order
}

// reference is an order as the document's words say it, without bits: who reaches whom over pairs.
type reference struct {
	n     int
	order pairs
	met   map[[2]int]bool
}

func refer(n int, order pairs) *reference {
	r := &reference{n: n, order: order, met: map[[2]int]bool{}}
	for a := range n {
		r.walk(a, a)
	}
	return r
}

func (r *reference) walk(from, at int) {
	if r.met[[2]int{from, at}] {
		return
	}
	r.met[[2]int{from, at}] = true
	for _, p := range r.order {
		if p[0] == at {
			r.walk(from, p[1])
		}
	}
}

func (r *reference) leq(a, b int) bool { return r.met[[2]int{a, b}] }
func (r *reference) geq(a, b int) bool { return r.met[[2]int{b, a}] }

// bound answers the one that is beyond both and within all that are, or -1.
func (r *reference) bound(a, b int, within func(a, b int) bool) int {
	for c := range r.n {
		least := within(a, c) && within(b, c)
		for d := range r.n {
			if within(a, d) && within(b, d) && !within(c, d) {
				least = false
			}
		}
		if least {
			return c
		}
	}
	return -1
}

func (r *reference) isLattice() bool {
	for a := range r.n {
		for b := range r.n {
			if a != b && r.leq(a, b) && r.leq(b, a) {
				return false
			}
			if r.bound(a, b, r.leq) < 0 || r.bound(a, b, r.geq) < 0 {
				return false
			}
		}
	}
	return true
}

func (r *reference) below(a int) []int {
	var list []int
	for b := range r.n {
		if r.leq(b, a) {
			list = append(list, b)
		}
	}
	return list
}

func (r *reference) above(a int) []int {
	var list []int
	for b := range r.n {
		if r.leq(a, b) {
			list = append(list, b)
		}
	}
	return list
}

// agree holds Make and all that a lattice answers against the document's words, and tells whether it was a lattice.
func agree(t *testing.T, n int, order pairs) bool {
	t.Helper()
	r := refer(n, order)
	if !r.isLattice() {
		mustRefuse(t, n, order, api.ErrLattice)
		return false
	}
	l := mustMake(t, n, order)
	if l.Size() != n {
		t.Errorf("%d, %v: Size %d", n, order, l.Size())
	}
	for a := range n {
		for b := range n {
			if l.Leq(a, b) != r.leq(a, b) {
				t.Errorf("%d, %v: Leq(%d, %d): %v", n, order, a, b, l.Leq(a, b))
			}
			if j, e := l.Join(a, b); j != r.bound(a, b, r.leq) || e != api.OK {
				t.Errorf("%d, %v: Join(%d, %d): %d, %d", n, order, a, b, j, e)
			}
			if m, e := l.Meet(a, b); m != r.bound(a, b, r.geq) || e != api.OK {
				t.Errorf("%d, %v: Meet(%d, %d): %d, %d", n, order, a, b, m, e)
			}
		}
		if !slices.Equal(l.Below(a), r.below(a)) || !slices.Equal(l.Above(a), r.above(a)) {
			t.Errorf("%d, %v: Below, Above(%d): %v, %v", n, order, a, l.Below(a), l.Above(a))
		}
		if !l.Leq(l.Bottom(), a) || !l.Leq(a, l.Top()) {
			t.Errorf("%d, %v: Bottom %d, Top %d", n, order, l.Bottom(), l.Top())
		}
	}
	laws(t, l)
	return true
}

// laws are the consequences of P1.4.
func laws(t *testing.T, l *Lattice) {
	t.Helper()
	join := func(a, b int) int { c, _ := l.Join(a, b); return c }
	meet := func(a, b int) int { c, _ := l.Meet(a, b); return c }
	for a := range l.Size() {
		if join(a, a) != a || meet(a, a) != a {
			t.Errorf("with itself: %d", a)
		}
		for b := range l.Size() {
			if join(a, b) != join(b, a) || meet(a, b) != meet(b, a) {
				t.Errorf("in either order: %d, %d", a, b)
			}
			if join(a, meet(a, b)) != a || meet(a, join(a, b)) != a {
				t.Errorf("with its meet, its join: %d, %d", a, b)
			}
			for c := range l.Size() {
				if join(a, join(b, c)) != join(join(a, b), c) || meet(a, meet(b, c)) != meet(meet(a, b), c) {
					t.Errorf("three: %d, %d, %d", a, b, c)
				}
			}
		}
	}
}

func TestExample(t *testing.T) {
	l := mustMake(t, 4, diamond)
	if j, e := l.Join(1, 2); j != 3 || e != api.OK {
		t.Error("join", j, e)
	}
	if m, e := l.Meet(1, 2); m != 0 || e != api.OK {
		t.Error("meet", m, e)
	}
	if l.Bottom() != 0 || l.Top() != 3 || !slices.Equal(l.Below(1), []int{0, 1}) {
		t.Error(l.Bottom(), l.Top(), l.Below(1))
	}
	mustRefuse(t, 4, diamond[:3], api.ErrLattice)
}

// P1.1: how many labels and pairs there may be, and which.
func TestMakeArguments(t *testing.T) {
	for _, n := range []int{math.MinInt, -1, 0, api.MaxLabels + 1, 64, math.MaxInt} {
		mustRefuse(t, n, nil, api.ErrArg)
		mustRefuse(t, n, pairs{{0, 0}}, api.ErrArg)
	}
	for _, wrong := range []int{math.MinInt, -1, 4, 7, 8, 64, math.MaxInt} {
		for at := range diamond {
			for side := range 2 {
				order := slices.Clone(diamond)
				order[at][side] = wrong
				mustRefuse(t, 4, order, api.ErrArg)
			}
		}
		mustRefuse(t, 4, append(slices.Clone(diamond), [2]int{wrong, wrong}), api.ErrArg)
		mustRefuse(t, 4, pairs{{0, 1}, {1, 0}, {wrong, 0}}, api.ErrArg) // no lattice either: told later
	}
	mustRefuse(t, 1, pairs{{0, 1}}, api.ErrArg)
	mustRefuse(t, 1, pairs{{1, 0}}, api.ErrArg)
}

func TestMakeHowManyPairs(t *testing.T) {
	var order pairs
	for len(order) < 64 {
		order = append(order, diamond...)
	}
	agree(t, 4, order)
	mustRefuse(t, 4, append(order, [2]int{0, 1}), api.ErrArg)
	loops := slices.Repeat(pairs{{0, 1}, {1, 0}}, 32)
	mustRefuse(t, 2, loops, api.ErrLattice)
	mustRefuse(t, 2, append(loops, [2]int{0, 1}), api.ErrArg)
	mustRefuse(t, 4, slices.Repeat(diamond, 1000), api.ErrArg)
}

// P1.1: each way of being no lattice, alone.
func TestMakeNoLattice(t *testing.T) {
	for _, c := range []struct {
		name  string
		n     int
		order pairs
	}{
		{"two that know nothing of each other", 2, nil},
		{"only with themselves", 2, pairs{{0, 0}, {1, 1}}},
		{"eight without pairs", 8, nil},
		{"both ways", 2, pairs{{0, 1}, {1, 0}}},
		{"both ways, over a third", 3, pairs{{0, 1}, {1, 2}, {2, 0}}},
		{"both ways, above a bottom", 4, pairs{{0, 1}, {1, 2}, {2, 1}, {2, 3}}},
		{"all one, of eight", 8, append(chain(8), [2]int{7, 0})},
		{"no join at all", 3, pairs{{0, 1}, {0, 2}}},
		{"no meet at all", 3, pairs{{0, 2}, {1, 2}}},
		{"two least ones above", 6, pairs{{0, 1}, {0, 2}, {1, 3}, {1, 4}, {2, 3}, {2, 4}, {3, 5}, {4, 5}}},
		{"a chain, and one beside it", 8, chain(7)},
	} {
		if refer(c.n, c.order).isLattice() {
			t.Error(c.name, "is one")
		}
		mustRefuse(t, c.n, c.order, api.ErrLattice)
	}
}

// P1.2, on lattices of many shapes.
func TestShapes(t *testing.T) {
	var cube pairs
	for a := range 8 {
		for _, b := range []int{1, 2, 4} {
			cube = append(cube, [2]int{a, a | b})
		}
	}
	turned := chain(8)
	slices.Reverse(turned)
	down := chain(8)
	for i := range down {
		down[i][0], down[i][1] = down[i][1], down[i][0]
	}
	for _, c := range []struct {
		name  string
		n     int
		order pairs
	}{
		{"one", 1, nil},
		{"one with itself", 1, pairs{{0, 0}}},
		{"two", 2, pairs{{0, 1}}},
		{"two, turned", 2, pairs{{1, 0}}},
		{"chain", 8, chain(8)},
		{"chain, its last pair first", 8, turned},
		{"chain down", 8, down},
		{"diamond", 4, diamond},
		{"cube", 8, cube},
		{"three side by side", 5, pairs{{0, 1}, {0, 2}, {0, 3}, {1, 4}, {2, 4}, {3, 4}}},
		{"pentagon", 5, pairs{{0, 1}, {1, 2}, {2, 4}, {0, 3}, {3, 4}}},
		{"six side by side, bottom and top last", 8, pairs{{6, 0}, {6, 1}, {6, 2}, {6, 3}, {6, 4}, {6, 5}, {0, 7}, {1, 7}, {2, 7}, {3, 7}, {4, 7}, {5, 7}}},
		{"bottom 2, top 0", 4, pairs{{2, 1}, {2, 3}, {1, 0}, {3, 0}}},
	} {
		if !agree(t, c.n, c.order) {
			t.Error(c.name, "is none")
		}
	}
}

func TestEveryOrderOfFew(t *testing.T) {
	for n := 1; n <= 4; n++ {
		var all pairs
		for a := range n {
			for b := range n {
				if a != b {
					all = append(all, [2]int{a, b})
				}
			}
		}
		lattices := 0
		for some := range 1 << len(all) {
			var order pairs
			for i, p := range all {
				if some>>i&1 == 1 {
					order = append(order, p)
				}
			}
			if agree(t, n, order) {
				lattices++
			}
		}
		if lattices == 0 {
			t.Error("no lattice of", n)
		}
	}
}

// closedSets answers an order of up to eight labels that is a lattice, as sets that are closed under being cut always are.
func closedSets(r *rand.Rand) (int, pairs) {
	for {
		sets := []int{15}
		for range 1 + r.Intn(6) {
			sets = append(sets, r.Intn(16))
		}
		for i := 0; i < len(sets); i++ {
			for j := range i {
				if both := sets[i] & sets[j]; !slices.Contains(sets, both) {
					sets = append(sets, both)
				}
			}
		}
		slices.Sort(sets)
		sets = slices.Compact(sets)
		if len(sets) > api.MaxLabels {
			continue
		}
		r.Shuffle(len(sets), func(i, j int) { sets[i], sets[j] = sets[j], sets[i] })
		var order pairs
		for a := range sets {
			for b := range sets {
				if sets[a]&sets[b] == sets[a] {
					order = append(order, [2]int{a, b})
				}
			}
		}
		r.Shuffle(len(order), func(i, j int) { order[i], order[j] = order[j], order[i] })
		return len(sets), order
	}
}

func TestManyLattices(t *testing.T) {
	r := rand.New(rand.NewSource(1))
	sizes := map[int]int{}
	for range 2000 {
		n, order := closedSets(r)
		if !agree(t, n, order) {
			t.Fatal("no lattice:", n, order)
		}
		sizes[n]++
		agree(t, n, order[:r.Intn(len(order)+1)]) // one that may lack something
	}
	for n := 1; n <= api.MaxLabels; n++ {
		if sizes[n] == 0 {
			t.Error("none of", n)
		}
	}
}

// P1.2: what is no label.
func TestNoLabel(t *testing.T) {
	for _, n := range []int{1, 4, 8} {
		l := mustMake(t, n, chain(n))
		for _, no := range []int{math.MinInt, -1, n, 8, 64, math.MaxInt} {
			for _, p := range (pairs{{no, 0}, {0, no}, {no, n - 1}, {n - 1, no}, {no, no}}) {
				if l.Leq(p[0], p[1]) {
					t.Error("Leq", n, p)
				}
				if j, e := l.Join(p[0], p[1]); j != 0 || e != api.ErrRange {
					t.Error("Join", n, p, j, e)
				}
				if m, e := l.Meet(p[0], p[1]); m != 0 || e != api.ErrRange {
					t.Error("Meet", n, p, m, e)
				}
			}
			if len(l.Below(no)) != 0 || len(l.Above(no)) != 0 {
				t.Error("Below, Above", n, no)
			}
		}
	}
}

// P1.3, and of a Lattice that Make didn't make: it has no labels.
func TestNil(t *testing.T) {
	for want, l := range map[api.Errno]*Lattice{api.ErrNil: nil, api.ErrRange: {}} {
		if l.Size() != 0 || l.Bottom() != 0 || l.Top() != 0 {
			t.Error(l.Size(), l.Bottom(), l.Top())
		}
		for _, a := range []int{-1, 0, 1, 8} {
			if l.Leq(a, a) || l.Leq(0, a) || len(l.Below(a)) != 0 || len(l.Above(a)) != 0 {
				t.Error(want, a)
			}
			if j, e := l.Join(a, 0); j != 0 || e != want {
				t.Error("Join", j, e)
			}
			if m, e := l.Meet(a, 0); m != 0 || e != want {
				t.Error("Meet", m, e)
			}
		}
	}
}

// Rule 5: what is handed in stays, and isn't kept; what is answered is new.
func TestMemory(t *testing.T) {
	room := append(slices.Clone(diamond), [2]int{9, 9})
	order := room[:4]
	l := mustMake(t, 4, order)
	if !slices.Equal(order, diamond) || room[4] != [2]int{9, 9} {
		t.Error("changed:", room)
	}
	clear(room)
	below, above := l.Below(3), l.Above(0)
	for _, list := range [][]int{below, above} {
		list = list[:cap(list)]
		for i := range list {
			list[i] = 7
		}
	}
	if !slices.Equal(l.Below(3), []int{0, 1, 2, 3}) || !slices.Equal(l.Above(0), []int{0, 1, 2, 3}) || l.Leq(1, 2) {
		t.Error("kept:", l.Below(3), l.Above(0))
	}
}
