// Package lattice is layer 1: finite lattices of labels, made of declared pairs (see shared/doc/01-lattice.md).
package lattice

import "bascule/api"

const maxPairs = 64

// labelSets has for each label a set of labels, one bit each.
type labelSets [api.MaxLabels]uint8

// Lattice is a finite lattice of labels. Both directions of the order are kept, so that joins and meets are sought alike.
type Lattice struct {
	size  int
	above labelSets
	below labelSets
}

// Make answers the lattice of an order's pairs: each pair's first label is at or below its second one.
func Make(n int, order [][2]int) (*Lattice, api.Errno) {
	if !mayBeOrder(n, order) {
		return nil, api.ErrArg
	}
	l := closeOrder(n, order)
	if !l.isLattice() {
		return nil, api.ErrLattice
	}
	return l, api.OK
}

// Size answers how many labels there are.
func (l *Lattice) Size() int {
	if l == nil {
		return 0
	}
	return l.size
}

// Leq answers whether a is at or below b.
func (l *Lattice) Leq(a, b int) bool {
	return l.has(a) && l.has(b) && contains(l.above[a], b)
}

// Join answers the least label that is at or above both.
func (l *Lattice) Join(a, b int) (int, api.Errno) {
	if l == nil {
		return 0, api.ErrNil
	}
	if !l.has(a) || !l.has(b) {
		return 0, api.ErrRange
	}
	join, _ := l.join(a, b)
	return join, api.OK
}

// Meet answers the greatest label that is at or below both.
func (l *Lattice) Meet(a, b int) (int, api.Errno) {
	if l == nil {
		return 0, api.ErrNil
	}
	if !l.has(a) || !l.has(b) {
		return 0, api.ErrRange
	}
	meet, _ := l.meet(a, b)
	return meet, api.OK
}

// Bottom answers the label that is at or below all.
func (l *Lattice) Bottom() int {
	bottom := 0
	for a := range l.Size() {
		if l.Leq(a, bottom) {
			bottom = a
		}
	}
	return bottom
}

// Top answers the label that is at or above all.
func (l *Lattice) Top() int {
	top := 0
	for a := range l.Size() {
		if l.Leq(top, a) {
			top = a
		}
	}
	return top
}

// Below answers the labels that are at or below a, rising.
func (l *Lattice) Below(a int) []int {
	if !l.has(a) {
		return nil
	}
	return members(l.below[a])
}

// Above answers the labels that are at or above a, rising.
func (l *Lattice) Above(a int) []int {
	if !l.has(a) {
		return nil
	}
	return members(l.above[a])
}

// has holds of no label where l is nil, so that callers needn't ask for that too.
func (l *Lattice) has(a int) bool {
	return l != nil && isLabel(l.size, a)
}

// join answers false where the labels have none; a Lattice that Make has handed out has all of them.
func (l *Lattice) join(a, b int) (int, bool) {
	return l.above.find(l.size, l.above[a]&l.above[b])
}

// meet answers false where the labels have none; a Lattice that Make has handed out has all of them.
func (l *Lattice) meet(a, b int) (int, bool) {
	return l.below.find(l.size, l.below[a]&l.below[b])
}

// isLattice tells what is to hold of each two labels of a closed order.
func (l *Lattice) isLattice() bool {
	holds := true
pairs:
	for a := range l.size {
		for b := range a {
			_, joined := l.join(a, b)
			_, met := l.meet(a, b)
			if !joined || !met || l.Leq(a, b) && l.Leq(b, a) {
				holds = false
				break pairs
			}
		}
	}
	return holds
}

// find answers the label that has just this set. Of the labels that are above two others it is the least one that has all these above it, and no more, as the order is closed.
func (s labelSets) find(n int, set uint8) (int, bool) {
	for a := range n {
		if s[a] == set {
			return a, true
		}
	}
	return 0, false
}

func mayBeOrder(n int, order [][2]int) bool {
	if n < 1 || n > api.MaxLabels || len(order) > maxPairs {
		return false
	}
	for _, pair := range order {
		if !isLabel(n, pair[0]) || !isLabel(n, pair[1]) {
			return false
		}
	}
	return true
}

// closeOrder answers what the pairs and all chains of them say; it may yet be no lattice.
func closeOrder(n int, order [][2]int) *Lattice {
	l := &Lattice{size: n}
	for a := range n {
		l.above[a] = bit(a)
	}
	for _, pair := range order {
		l.above[pair[0]] |= bit(pair[1])
	}
	for between := range n { // outermost: a chain is known once each label amid it has had its turn
		for a := range n {
			if contains(l.above[a], between) {
				l.above[a] |= l.above[between]
			}
		}
	}
	l.below = turn(n, l.above)
	return l
}

func turn(n int, above labelSets) labelSets {
	var below labelSets
	for a := range n {
		for b := range n {
			if contains(above[a], b) {
				below[b] |= bit(a)
			}
		}
	}
	return below
}

func isLabel(n, a int) bool {
	return a >= 0 && a < n
}

func bit(a int) uint8 {
	return 1 << a
}

func contains(set uint8, a int) bool {
	return set&bit(a) != 0
}

func members(set uint8) []int {
	var list []int
	for a := range api.MaxLabels {
		if contains(set, a) {
			list = append(list, a)
		}
	}
	return list
}
