package well

import (
	"fmt"
	"math"
	"reflect"
	"slices"
	"strconv"
	"strings"
	"testing"

	"bascule/api"
	"bascule/eval"
	"bascule/lattice"
	"bascule/lex"
	"bascule/parse"
	"bascule/types"
	"bascule/value"
)

// Things to write.

func expr(text string) api.Expr {
	x, _, e := parse.Parse(text)
	if e != api.OK {
		panic("no expression: " + text)
	}
	return x
}

func exprs(texts ...string) []api.Expr {
	var all []api.Expr
	for _, text := range texts {
		all = append(all, expr(text))
	}
	return all
}

func rep(s string, n int) string { return strings.Repeat(s, n) }

func truth(n int64) api.Value           { return api.Value{Kind: api.VBool, N: n} }
func num(n int64) api.Value             { return api.Value{Kind: api.VInt, N: n} }
func flo(f float64) api.Value           { return api.Value{Kind: api.VFloat, F: f} }
func str(s string) api.Value            { return api.Value{Kind: api.VStr, S: s} }
func list(items ...api.Value) api.Value { return api.Value{Kind: api.VList, Items: items} }

// rec takes its names with blanks between.
func rec(names string, items ...api.Value) api.Value {
	return api.Value{Kind: api.VRec, Names: strings.Fields(names), Items: items}
}

func typ(kind int) api.Type         { return api.Type{Kind: kind} }
func listOf(item api.Type) api.Type { return api.Type{Kind: api.TList, Items: []api.Type{item}} }
func recOf(names string, items ...api.Type) api.Type {
	return api.Type{Kind: api.TRec, Names: strings.Fields(names), Items: items}
}

// deepType has so many types within one another, the last one within lists.
func deepType(n int, last int) api.Type {
	t := typ(last)
	for range n - 1 {
		t = listOf(t)
	}
	return t
}

// wideType has so many parts, two at least, the last one of a kind.
func wideType(parts int, last int) api.Type {
	t := api.Type{Kind: api.TRec}
	for i := range parts - 1 {
		t.Names = append(t.Names, fmt.Sprintf("n%03d", i))
		t.Items = append(t.Items, typ(api.TInt))
	}
	t.Items[parts-2] = typ(last)
	return t
}

// node has all that no node needs to have left out.
func node(kind int, next ...int) api.Node {
	return api.Node{Kind: kind, Next: next, Var: -1, Msg: -1, Catch: -1}
}

// plain is a model that is well formed, without expressions.
func plain() api.Model {
	return api.Model{Labels: 2, Order: [][2]int{{0, 1}}, Nodes: []api.Node{node(api.NStart, 1), node(api.NEnd)}}
}

// The variables and messages of the full model, by their numbers.
const (
	varYes, varN, varF, varS, varL, varR, varLast = 0, 1, 2, 3, 4, 5, 6
	msgInt, msgRec, msgLast                       = 0, 1, 2
)

// full is a model that is well formed, with each kind of node, with and without what it may have.
func full() api.Model {
	m := api.Model{
		Labels: 4,
		Order:  [][2]int{{0, 1}, {0, 2}, {1, 3}, {2, 3}},
		Grants: [][2]int{{3, 0}, {1, 2}, {1, 2}, {0, 0}},
		Vars: []api.Var{
			{Name: "yes", Label: 0, Type: typ(api.TBool), Init: truth(1)},
			{Name: "n", Label: 1, Type: typ(api.TInt), Init: num(-3)},
			{Name: "f", Label: 2, Type: typ(api.TFloat), Init: flo(math.NaN())},
			{Name: "s", Label: 3, Type: typ(api.TStr), Init: str("\xff")},
			{Name: "l", Label: 0, Type: listOf(typ(api.TInt)), Init: list()},
			{Name: "r", Label: 1, Type: recOf("a b", typ(api.TInt), listOf(typ(api.TStr))), Init: rec("a b", num(1), list(str("x")))},
			{Name: "ll", Label: 2, Type: listOf(listOf(typ(api.TFloat))), Init: list(list(flo(1), flo(math.Inf(1))))},
		},
		Msgs: []api.Msg{
			{Name: "n", Label: 0, Key: typ(api.TInt), Body: listOf(typ(api.TInt))},
			{Name: "asked", Label: 1, Key: recOf("k", typ(api.TStr)), Body: recOf("a b", typ(api.TInt), listOf(typ(api.TStr)))},
			{Name: "told", Label: 3, Key: listOf(typ(api.TFloat)), Body: listOf(listOf(typ(api.TFloat)))},
		},
	}
	m.Nodes = fullNodes()
	return m
}

// fullNodes has starts first and last.
func fullNodes() []api.Node {
	return []api.Node{
		node(api.NStart, 1),
		{Kind: api.NTask, Label: 1, Next: []int{2}, Expr: expr("n+len(s)"), Var: varN, Msg: -1, Catch: -1},
		{Kind: api.NTask, Label: 3, Next: []int{3}, Expr: expr("[]"), Var: varL, Msg: -1, Catch: 21},
		{Kind: api.NChoose, Label: 0, Next: []int{4, 3}, Conds: exprs("yes"), Var: -1, Msg: -1, Catch: -1},
		{Kind: api.NChoose, Label: 0, Next: []int{1, 2, 3, 4, 5, 6}, Conds: exprs("yes", "n<1", "f==0p0", "s<=\"a\"", "l==[]"), Var: -1, Msg: -1, Catch: 4},
		{Kind: api.NSome, Label: 2, Next: []int{6, 6, 6}, Conds: exprs("r.a==n", "!yes"), Var: -1, Msg: -1, Catch: 22},
		{Kind: api.NSome, Label: 2, Next: []int{1, 2, 3, 4, 5, 6}, Conds: exprs("yes&&yes", "true", "false", "nan==nan", "ll[0][0]<f"), Var: -1, Msg: -1, Catch: -1},
		node(api.NPar, 8),
		{Kind: api.NPar, Label: 3, Next: []int{9, 10, 11, 12, 13, 8}, Var: -1, Msg: -1, Catch: -1},
		{Kind: api.NUser, Label: 1, Next: []int{10}, Var: varR, Msg: -1, Catch: -1},
		{Kind: api.NUser, Label: 1, Next: []int{10}, Var: varYes, Msg: -1, Catch: 10, Wait: 1},
		{Kind: api.NUser, Label: 1, Next: []int{10}, Var: varLast, Msg: -1, Catch: 22, Wait: 1000},
		{Kind: api.NTimer, Label: 2, Next: []int{13}, Var: -1, Msg: -1, Catch: -1, Wait: 1},
		{Kind: api.NTimer, Label: 2, Next: []int{14}, Var: -1, Msg: -1, Catch: -1, Wait: 1000},
		{Kind: api.NReceive, Label: 0, Next: []int{15}, Expr: expr("n"), Var: varL, Msg: msgInt, Catch: -1},
		{Kind: api.NReceive, Label: 1, Next: []int{16}, Expr: expr("{k:s}"), Var: varR, Msg: msgRec, Catch: 1},
		{Kind: api.NSend, Label: 1, Next: []int{17}, Expr: expr("{k:str(f)}"), Body: expr("r"), Var: -1, Msg: msgRec, Catch: 17},
		{Kind: api.NSend, Label: 1, Next: []int{18}, Expr: expr("[]"), Body: expr("[[]]+ll"), Var: -1, Msg: msgLast, Catch: -1},
		{Kind: api.NEvent, Label: 3, Next: []int{19, 21}, Expr: expr("[f]"), Var: varLast, Msg: msgLast, Catch: -1, Wait: 1},
		{Kind: api.NEvent, Label: 0, Next: []int{20, 20}, Expr: expr("-1"), Var: varL, Msg: msgInt, Catch: 19, Wait: 1000},
		{Kind: api.NRelease, Label: 0, Next: []int{21}, Expr: expr("s+\"!\""), Body: expr("\"\"+str(1)"), Var: varS, Msg: -1, Catch: -1, From: 3},
		{Kind: api.NEnd, Label: 3, Var: -1, Msg: -1, Catch: -1},
		node(api.NStop),
		{Kind: api.NRelease, Label: 2, Next: []int{23}, Expr: expr("l+[n]"), Body: expr("[]"), Var: varL, Msg: -1, Catch: -1},
		{Kind: api.NStart, Label: 3, Next: []int{24 - 1}, Var: -1, Msg: -1, Catch: -1},
	}
}

// firstStart and lastStart are the full model's starts.
const firstStart, lastStart = 0, 24

// faulty is a model against rules 2 to 7, but for its size.
func faulty() api.Model {
	m := full()
	m.Vars[2].Label = -1
	m.Msgs[1].Label = 4
	m.Grants[3][1] = -1
	m.Nodes[7].Kind = 0
	m.Nodes[3].Conds = exprs("n")
	m.Nodes[firstStart].Kind, m.Nodes[lastStart].Kind = api.NPar, api.NPar
	return m
}

// fault is written shortly.
func fault(rule, at int) api.Fault { return api.Fault{Rule: rule, At: at} }

// check wants just these faults, and the words of the document to be of that mind.
func check(t *testing.T, what string, m api.Model, want ...api.Fault) {
	t.Helper()
	if got := Check(m); !slices.Equal(got, want) {
		t.Errorf("%s: faults %v, not %v", what, got, want)
	}
	if told := judged(m); !slices.Equal(told, want) {
		t.Errorf("%s: by the document %v, not %v", what, told, want)
	}
}

// checkNode wants just this rule, of this node, to be broken; 0 is none.
func checkNode(t *testing.T, what string, m api.Model, at, rule int) {
	t.Helper()
	if rule == 0 {
		check(t, what, m)
		return
	}
	check(t, what, m, fault(rule, at))
}

// The document's words, rule by rule; rule 5 reads the chapter's table.

const chapter = `
| NStart | 1 | | | | | |
| NEnd, NStop | 0 | | | | | |
| NTask | 1 | | Expr | Var | may be | |
| NChoose, NSome | as Conds, and one | 1 to 5 | | | may be | |
| NPar | 1 to 6 | | | | | |
| NUser | 1 | | | Var | just if Wait is above 0 | 0 to 1000 |
| NTimer | 1 | | | | | 1 to 1000 |
| NReceive | 1 | | Expr | Var, Msg | may be | |
| NSend | 1 | | Expr, Body | Msg | may be | |
| NEvent | 2 | | Expr | Var, Msg | may be | 1 to 1000 |
| NRelease | 1 | | Expr, Body | Var | | |
`

const (
	cellKind = iota
	cellNext
	cellConds
	cellExprs
	cellNumbers
	cellCatch
	cellWait
)

// kindNames are in the order of the kinds, from 1 on.
const kindNames = "NStart NEnd NTask NChoose NSome NPar NUser NTimer NReceive NSend NEvent NRelease NStop"

// cells are those of a kind's row; none, if it has none.
func cells(kind int) []string {
	names := strings.Fields(kindNames)
	if kind < 1 || kind > len(names) {
		return nil
	}
	for line := range strings.Lines(chapter) {
		row := strings.Split(strings.Trim(line, "|\n"), "|")
		for i := range row {
			row[i] = strings.TrimSpace(row[i])
		}
		if slices.Contains(strings.Split(row[cellKind], ", "), names[kind-1]) {
			return row
		}
	}
	panic("no row of kind " + strconv.Itoa(kind))
}

// allows tells whether a number may stand in a cell: nothing is 0.
func allows(cell string, n int) bool {
	if cell == "" {
		return n == 0
	}
	low, high, isRange := strings.Cut(cell, " to ")
	if !isRange {
		high = low
	}
	least, _ := strconv.Atoi(low)
	most, _ := strconv.Atoi(high)
	return n >= least && n <= most
}

func isWithin(n, size int) bool { return n >= 0 && n < size }

// isBare tells whether all of it is zero, a zero with a minus being something.
func isBare(v reflect.Value) bool {
	switch v.Kind() {
	case reflect.Slice, reflect.String:
		return v.Len() == 0
	case reflect.Struct:
		for i := range v.NumField() {
			if !isBare(v.Field(i)) {
				return false
			}
		}
		return true
	case reflect.Float64:
		return math.Float64bits(v.Float()) == 0
	}
	return v.Int() == 0
}

// keepsRow is rule 5.
func keepsRow(m api.Model, n api.Node) bool {
	row := cells(n.Kind)
	if row == nil || !isWithin(n.Label, m.Labels) {
		return false
	}
	for name, x := range map[string]api.Expr{"Expr": n.Expr, "Body": n.Body} {
		if strings.Contains(row[cellExprs], name) && x.Kind == 0 || !strings.Contains(row[cellExprs], name) && !isBare(reflect.ValueOf(x)) {
			return false
		}
	}
	for name, number := range map[string][2]int{"Var": {n.Var, len(m.Vars)}, "Msg": {n.Msg, len(m.Msgs)}} {
		if strings.Contains(row[cellNumbers], name) && !isWithin(number[0], number[1]) || !strings.Contains(row[cellNumbers], name) && number[0] != -1 {
			return false
		}
	}
	next := row[cellNext]
	if next == "as Conds, and one" {
		next = strconv.Itoa(len(n.Conds) + 1)
	}
	from := n.From == 0
	if n.Kind == api.NRelease {
		from = isWithin(n.From, m.Labels)
	}
	return from && allows(next, len(n.Next)) && allows(row[cellConds], len(n.Conds)) && allows(row[cellWait], n.Wait) && waysHold(m, n, row[cellCatch])
}

func waysHold(m api.Model, n api.Node, catch string) bool {
	ways := slices.Clone(n.Next)
	switch catch {
	case "":
		if n.Catch != -1 {
			return false
		}
	case "may be":
		if n.Catch != -1 {
			ways = append(ways, n.Catch)
		}
	default:
		if (n.Wait > 0) != (n.Catch != -1) {
			return false
		}
		if n.Wait > 0 {
			ways = append(ways, n.Catch)
		}
	}
	for _, to := range ways {
		if !isWithin(to, len(m.Nodes)) || m.Nodes[to].Kind == api.NStart {
			return false
		}
	}
	return true
}

// stands tells whether a joins with b to b.
func stands(a, b api.Type) bool {
	joined, e := types.Join(a, b)
	return e == api.OK && types.Same(joined, b)
}

// keepsTypes is rule 6.
func keepsTypes(m api.Model, n api.Node) bool {
	of := map[string]api.Type{}
	for name, x := range map[string]api.Expr{"Expr": n.Expr, "Body": n.Body} {
		t, e := types.Check(x, m.Vars)
		if x.Kind != 0 && e != api.OK {
			return false
		}
		of[name] = t
	}
	for _, x := range n.Conds {
		if t, e := types.Check(x, m.Vars); e != api.OK || !types.Same(t, typ(api.TBool)) {
			return false
		}
	}
	var v api.Var
	var msg api.Msg
	if n.Var >= 0 {
		v = m.Vars[n.Var]
	}
	if n.Msg >= 0 {
		msg = m.Msgs[n.Msg]
	}
	switch n.Kind {
	case api.NTask:
		return stands(of["Expr"], v.Type)
	case api.NSend:
		return stands(of["Expr"], msg.Key) && stands(of["Body"], msg.Body)
	case api.NReceive, api.NEvent:
		return stands(of["Expr"], msg.Key) && stands(msg.Body, v.Type)
	case api.NRelease:
		body, e := eval.Eval(n.Body, nil, nil)
		return stands(of["Expr"], v.Type) && e == api.OK && !readsAny(n.Body) && value.Fits(body, v.Type)
	}
	return true
}

func readsAny(x api.Expr) bool {
	return x.Kind == api.EVar || slices.ContainsFunc(x.Kids, readsAny)
}

// isGround looks for TNone on a stack.
func isGround(t api.Type) bool {
	if !value.TypeRight(t) {
		return false
	}
	for open := []api.Type{t}; len(open) > 0; {
		last := open[len(open)-1]
		if last.Kind == api.TNone {
			return false
		}
		open = append(open[:len(open)-1], last.Items...)
	}
	return true
}

// judged answers the faults by those words.
func judged(m api.Model) []api.Fault {
	if _, e := lattice.Make(m.Labels, m.Order); e != api.OK {
		return []api.Fault{fault(1, -1)}
	}
	if len(m.Vars) > 16 || len(m.Msgs) > 8 || len(m.Grants) > 64 || len(m.Nodes) > 40 {
		return []api.Fault{fault(7, -1)}
	}
	var all []api.Fault
	names, starts := map[string]int{}, 0
	for i, v := range m.Vars {
		names[v.Name]++
		if names[v.Name] > 1 || !value.Name(v.Name) || lex.Word(v.Name) || !isWithin(v.Label, m.Labels) || !isGround(v.Type) || !value.Fits(v.Init, v.Type) {
			all = append(all, fault(2, i))
		}
	}
	clear(names)
	for i, msg := range m.Msgs {
		names[msg.Name]++
		if names[msg.Name] > 1 || !value.Name(msg.Name) || lex.Word(msg.Name) || !isWithin(msg.Label, m.Labels) || !isGround(msg.Key) || !isGround(msg.Body) {
			all = append(all, fault(3, i))
		}
	}
	for i, grant := range m.Grants {
		if !isWithin(grant[0], m.Labels) || !isWithin(grant[1], m.Labels) {
			all = append(all, fault(4, i))
		}
	}
	for i, n := range m.Nodes {
		if n.Kind == api.NStart {
			starts++
		}
		if !keepsRow(m, n) {
			all = append(all, fault(5, i))
		} else if !keepsTypes(m, n) {
			all = append(all, fault(6, i))
		}
	}
	if starts == 0 {
		all = append(all, fault(7, -1))
	}
	return all
}
