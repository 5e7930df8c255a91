package region

import "slices"

// nowhere stands for the place of a node that isn't come to, and of what stands over a place as long as that isn't known.
const nowhere = -1

// sources answers, for each place in the order, the places that edges to its node come from; nodes that don't stand in it are left aside.
func (g graph) sources(order []int) [][]int {
	places := slices.Repeat([]int{nowhere}, len(g.into))
	for at, node := range order {
		places[node] = at
	}
	sources := make([][]int, len(order))
	for at, node := range order {
		for _, from := range g.into[node] {
			if places[from] != nowhere {
				sources[at] = append(sources[at], places[from])
			}
		}
	}
	return sources
}

// nearest answers, for each place, the nearest other one that every way to it leads over; for the root's, which is the first, itself. Each but the root's is to have a source ahead of it.
//
// A round lifts each place as far as its sources ask for, and never past what is right. What was lifted may ask places ahead of it to be lifted, so that another round begins till no edge leads past what stands over the place that it leads to.
func nearest(sources [][]int) []int {
	over := slices.Repeat([]int{nowhere}, len(sources))
	over[0] = 0
rounds:
	for {
		for at, from := range sources {
			lift(over, at, from)
		}
		for at, from := range sources {
			for _, source := range from {
				if meet(over, over[at], source) != over[at] {
					continue rounds
				}
			}
		}
		return over
	}
}

// lift leaves aside sources that nothing is known of yet.
func lift(over []int, at int, sources []int) {
	for _, source := range sources {
		switch {
		case over[source] == nowhere:
		case over[at] == nowhere:
			over[at] = source
		default:
			over[at] = meet(over, over[at], source)
		}
	}
}

// meet answers the nearest place that stands over both, or is one of them. What stands over a place is ahead of it, so that the later one of two can't stand over the other.
func meet(over []int, a, b int) int {
	for a != b {
		if a > b {
			a = over[a]
		} else {
			b = over[b]
		}
	}
	return a
}
