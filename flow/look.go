package flow

import (
	"slices"

	"bascule/api"
	"bascule/infer"
	"bascule/lattice"
	"bascule/model"
	"bascule/well"
)

// The chapter's rules, by their numbers.
const (
	ruleEdge    = 1
	ruleRead    = 2
	ruleSet     = 3
	ruleAwait   = 4
	ruleSend    = 5
	ruleRelease = 6
)

// look is a model that is well formed, with the lattice of its labels: so all numbers in it are there, and all that its expressions read has a label.
type look struct {
	m      api.Model
	labels *lattice.Lattice
}

// lookAt answers what a model is refused for; a look at it, if there is nothing.
func lookAt(m api.Model) (look, []api.Fault) {
	if faults := well.Check(m); len(faults) > 0 {
		return look{}, faults
	}
	labels, _ := well.Lattice(m)
	return look{m, labels}, nil
}

// alongEdges is rule 1.
func (k look) alongEdges() []api.Fault {
	var faults []api.Fault
	for number, way := range model.Edges(k.m) {
		if !k.labels.Leq(k.m.Nodes[way.From].Label, k.m.Nodes[way.To].Label) {
			faults = append(faults, api.Fault{Rule: ruleEdge, At: number})
		}
	}
	return faults
}

// brokenBy answers for each of rules 2 to 6, at its number, whether a node breaks it: a kind goes on to the one that is looked at likewise, and in an array the rules stand in order nonetheless.
func (k look) brokenBy(n api.Node) (broken [ruleRelease + 1]bool) {
	switch n.Kind {
	case api.NSend:
		broken[ruleSend] = !k.labels.Leq(n.Label, k.m.Msgs[n.Msg].Label)
		fallthrough
	case api.NChoose, api.NSome:
		broken[ruleRead] = k.readsBeyond(n.Label, model.Exprs(n)...)
	case api.NReceive, api.NEvent:
		broken[ruleAwait] = k.m.Msgs[n.Msg].Label != n.Label
		fallthrough
	case api.NTask:
		broken[ruleRead] = k.readsBeyond(n.Label, model.Exprs(n)...)
		fallthrough
	case api.NUser:
		broken[ruleSet] = k.setsLower(n)
	case api.NRelease:
		broken[ruleRead] = k.readsBeyond(n.Label, n.Body)
		broken[ruleSet] = k.setsLower(n)
		broken[ruleRelease] = !k.mayRelease(n)
	}
	return broken
}

// readsBeyond answers whether expressions read what isn't at or below a label.
func (k look) readsBeyond(a int, list ...api.Expr) bool {
	read, _ := infer.All(k.labels, list, k.m.Vars)
	return !k.labels.Leq(read, a)
}

// setsLower asks for a node that sets a variable.
func (k look) setsLower(n api.Node) bool {
	return !k.labels.Leq(n.Label, k.m.Vars[n.Var].Label)
}

// mayRelease is rule 6.
func (k look) mayRelease(n api.Node) bool {
	return !k.readsBeyond(n.From, n.Expr) && slices.Contains(k.m.Grants, [2]int{n.From, n.Label})
}
