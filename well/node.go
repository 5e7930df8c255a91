package well

import (
	"slices"

	"bascule/api"
	"bascule/eval"
	"bascule/model"
	"bascule/none"
	"bascule/types"
	"bascule/value"
)

// absent is what Var, Msg and Catch are where a node has none.
const absent = -1

// span is the numbers from the least to the greatest one.
type span struct{ least, most int }

func (s span) has(n int) bool {
	return s.least <= n && n <= s.most
}

func just(n int) span {
	return span{n, n}
}

// below answers the numbers of so many things.
func below(n int) span {
	return span{0, n - 1}
}

// orAbsent lets there be none, too.
func (s span) orAbsent() span {
	return span{absent, s.most}
}

// row is what a node is to have: for each column of the chapter's table the numbers that may stand there (of Next and Conds how many), and whether there are Expr and Body.
type row struct {
	next, conds, variable, msg, catch, wait, from span
	expr, body                                    bool
}

// rowOf answers the row of a node's kind; false, if it is none. An event has all that a receiving node has, and that one all that a task has.
func rowOf(m api.Model, n api.Node) (r row, ok bool) {
	vars, msgs, nodes := below(len(m.Vars)), below(len(m.Msgs)), below(len(m.Nodes))
	r = row{next: just(1), variable: just(absent), msg: just(absent), catch: just(absent)}
	switch n.Kind {
	case api.NStart:
	case api.NEnd, api.NStop:
		r.next = just(0)
	case api.NChoose, api.NSome:
		r.conds = span{1, api.MaxNext - 1}
		r.next = just(len(n.Conds) + 1)
		r.catch = nodes.orAbsent()
	case api.NPar:
		r.next = span{1, api.MaxNext}
	case api.NUser:
		r.variable = vars
		if n.Wait > 0 {
			r.catch = nodes
		}
		r.wait = span{0, api.MaxWait}
	case api.NTimer:
		r.wait = span{1, api.MaxWait}
	case api.NEvent:
		r.next = just(2)
		r.wait = span{1, api.MaxWait}
		fallthrough
	case api.NReceive:
		r.msg = msgs
		fallthrough
	case api.NTask:
		r.expr, r.variable, r.catch = true, vars, nodes.orAbsent()
	case api.NSend:
		r.expr, r.body, r.msg, r.catch = true, true, msgs, nodes.orAbsent()
	case api.NRelease:
		r.expr, r.body, r.variable, r.from = true, true, vars, below(m.Labels)
	default:
		return row{}, false
	}
	return r, true
}

// hasItsRow is rule 5.
func hasItsRow(m api.Model, n api.Node) bool {
	r, ok := rowOf(m, n)
	return ok && isLabel(m, n.Label) && r.holdsOf(n) && leadsWell(m, n)
}

func (r row) holdsOf(n api.Node) bool {
	return r.next.has(len(n.Next)) && r.conds.has(len(n.Conds)) &&
		isThere(n.Expr, r.expr) && isThere(n.Body, r.body) &&
		r.variable.has(n.Var) && r.msg.has(n.Msg) && r.catch.has(n.Catch) && r.wait.has(n.Wait) && r.from.has(n.From)
}

// isThere answers whether an expression is there, if it is to be, or else is none at all.
func isThere(x api.Expr, asked bool) bool {
	if asked {
		return x.Kind != 0
	}
	return none.Expr(x)
}

// leadsWell asks for a node whose row holds, so that it has few ways. Alone in a model it has just its own edges.
func leadsWell(m api.Model, n api.Node) bool {
	alone := api.Model{Nodes: []api.Node{n}}
	return !slices.ContainsFunc(model.Edges(alone), func(way api.Edge) bool {
		return !below(len(m.Nodes)).has(way.To) || isStart(m.Nodes[way.To])
	})
}

// isTyped is rule 6, of a node of which rule 5 holds.
func isTyped(m api.Model, n api.Node) bool {
	for _, x := range n.Conds {
		if t, e := types.Check(x, m.Vars); e != api.OK || t.Kind != api.TBool {
			return false
		}
	}
	switch n.Kind {
	case api.NRelease:
		if !isConstant(m, n.Body, m.Vars[n.Var].Type) {
			return false
		}
		fallthrough
	case api.NTask:
		return standsFor(m, n.Expr, m.Vars[n.Var].Type)
	case api.NSend:
		return standsFor(m, n.Expr, m.Msgs[n.Msg].Key) && standsFor(m, n.Body, m.Msgs[n.Msg].Body)
	case api.NReceive, api.NEvent:
		return standsFor(m, n.Expr, m.Msgs[n.Msg].Key) && types.Is(m.Msgs[n.Msg].Body, m.Vars[n.Var].Type)
	}
	return true
}

func standsFor(m api.Model, x api.Expr, t api.Type) bool {
	of, e := types.Check(x, m.Vars)
	return e == api.OK && types.Is(of, t)
}

// isConstant asks for the type by itself: what is never come to may have none.
func isConstant(m api.Model, x api.Expr, t api.Type) bool {
	_, e := types.Check(x, m.Vars)
	v, ok := eval.Const(x)
	return e == api.OK && ok && value.Fits(v, t)
}
