package well

import (
	"fmt"
	"math"
	"slices"
	"strings"
	"testing"

	"bascule/api"
)

// placed is a place of the full model where an expression stands, and the type that it is to be.
type placed struct {
	at    int
	needs string
	x     func(m *api.Model) *api.Expr
}

// exprPlaces are all of them, but the Bodies of releases.
func exprPlaces() []placed {
	var all []placed
	for at, needs := range map[int]string{1: "int", 2: "ints", 14: "int", 15: "k", 16: "k", 17: "floats", 18: "floats", 19: "int", 20: "str", 23: "ints"} {
		all = append(all, placed{at, needs, func(m *api.Model) *api.Expr { return &m.Nodes[at].Expr }})
	}
	for at, needs := range map[int]string{16: "r", 17: "lists"} {
		all = append(all, placed{at, needs, func(m *api.Model) *api.Expr { return &m.Nodes[at].Body }})
	}
	for at, n := range full().Nodes {
		for i := range n.Conds {
			all = append(all, placed{at, "bool", func(m *api.Model) *api.Expr { return &m.Nodes[at].Conds[i] }})
		}
	}
	return all
}

// P14.1, rule 6: expressions of each type in the place of each other one.
func TestExprTypes(t *testing.T) {
	all := map[string]string{ // the types that each one stands for
		"yes": "bool", "true": "bool", "!yes": "bool", "n<1": "bool", "1==1": "bool", "l==[]": "bool", "[]==[]": "bool", "yes&&1/0==1": "bool", "[yes][7]": "bool",
		"n": "int", "0": "int", "-1": "int", "n/0": "int", "len(s)": "int", "int(nan)": "int", "l[0]": "int", "r.a": "int", "yes?n:1": "int", "9223372036854775807+1": "int",
		"f": "", "1p0": "", "float(n)": "", "ll[0][0]": "",
		"s": "str", `"true"`: "str", "str(n)": "str", "r.b[0]": "str", `s+"x"`: "str",
		"l": "ints", "[n]": "ints", "[]+l": "ints", "yes?l:[]": "ints", "[[1]][0]": "ints",
		"[f]": "floats", "ll[0]": "floats", "[]+[nan]": "floats",
		"[]": "ints floats lists", "[]+[]": "ints floats lists", "yes?[]:[]": "ints floats lists", "{a:[]}.a": "ints floats lists", "[[]][0]": "ints floats lists",
		"ll": "lists", "[[]]": "lists", "[[],[1p0]]": "lists", "[[f]]+[[]]": "lists", "[[[]]]": "", "[[n]]": "", "[s]": "", "[yes]": "",
		"r": "r", "{a:1,b:[]}": "r", "{b:[s],a:n}": "r", "yes?r:{a:1,b:[]}": "r", "{a:1,b:[1]}": "", "{a:1p0,b:[]}": "", "{a:1}": "", "{a:1,b:[],c:1}": "", "{}": "", "[r]": "",
		"{k:s}": "k", `{k:""}`: "k", "{k:1}": "", "{kk:s}": "", "{k:{k:s}}": "",
	}
	for _, p := range exprPlaces() {
		for text, fits := range all {
			m := full()
			*p.x(&m) = expr(text)
			rule := 6
			if slices.Contains(strings.Fields(fits), p.needs) {
				rule = 0
			}
			checkNode(t, fmt.Sprint(text, " in the place of ", p.needs, " at ", p.at), m, p.at, rule)
		}
	}
}

// illExprs have no types.
func illExprs() []api.Expr {
	all := exprs("m", "x", "yes+yes", "n+f", "n+1p0", "s-s", "!n", "-s", "-yes", "[1,s]", "[n]+[f]", "yes?n:f", "n?yes:yes", "yes&&n", "true||1", "n==f", "n==s", "l==[f]", "yes<yes", "l<l", "r.c", "n.a", "{}.a", "[][0]", "l[f]", "s[0]", "len(n)", "len(r)", "float(f)", "int(n)", "str(l)", "n%f", "f%f")
	great := api.Expr{Kind: api.EList, Kids: exprs(rep("[", 11) + rep("]", 11))} // of 13 types within one another
	all = append(all, great)
	for _, x := range []api.Expr{
		{}, {Kind: -1}, {Kind: 24}, {Kind: 256 + api.EConst, V: truth(1)}, {Kind: math.MinInt}, {Kind: api.EConst}, {Kind: api.EConst, V: num(-1)}, {Kind: api.EConst, V: truth(2)}, {Kind: api.EConst, V: flo(math.Copysign(0, -1))}, {Kind: api.EConst, V: list()}, {Kind: api.EConst, V: str(rep("s", 201))},
		{Kind: api.EVar}, {Kind: api.EVar, S: "true"}, {Kind: api.EVar, S: "len"}, {Kind: api.EVar, S: "N"}, {Kind: api.EVar, S: "n", V: num(1)}, {Kind: api.EVar, S: "yes", Kids: exprs("yes")}, {Kind: api.ENot}, {Kind: api.ENot, Kids: exprs("yes", "yes")}, {Kind: api.ENot, S: "yes", Kids: exprs("yes")}, {Kind: api.EAdd, Kids: exprs("n")}, {Kind: api.EAdd, Kids: exprs("n", "n", "n")}, {Kind: api.EIf, Kids: exprs("yes", "yes")},
		{Kind: api.EList, Kids: make([]api.Expr, 1)}, {Kind: api.EList, Kids: slices.Repeat(exprs("n"), 200)}, {Kind: api.EList, Kids: slices.Repeat(exprs("n"), 100000)}, {Kind: api.ERec, Names: []string{"k"}}, {Kind: api.ERec, Names: []string{"b", "a"}, Kids: exprs("[s]", "n")}, deepExpr(13), deepExpr(60000), sharedExpr(60), endlessExpr(api.EAdd), endlessExpr(api.EList), endlessExpr(24), endlessExpr(-1),
	} {
		all = append(all, x)
	}
	return all
}

// deepExpr has so many expressions within one another.
func deepExpr(n int) api.Expr {
	x := expr("yes")
	for range n - 1 {
		x = api.Expr{Kind: api.ENot, Kids: []api.Expr{x}}
	}
	return x
}

// sharedExpr has each part twice in the next one.
func sharedExpr(n int) api.Expr {
	x := expr("n")
	for range n {
		x = api.Expr{Kind: api.EAdd, Kids: []api.Expr{x, x}}
	}
	return x
}

// P14.1, rule 6: expressions that aren't right, or have no type.
func TestExprsWithoutTypes(t *testing.T) {
	places := exprPlaces()
	for _, at := range []int{20, 23} {
		places = append(places, placed{at, "constant", func(m *api.Model) *api.Expr { return &m.Nodes[at].Body }})
	}
	for _, p := range places {
		for i, x := range illExprs() {
			m := full()
			*p.x(&m) = x
			rule := 6
			if x.Kind == 0 && p.needs != "bool" {
				rule = 5
			}
			checkNode(t, fmt.Sprint("expression ", i, " in the place of ", p.needs, " at ", p.at), m, p.at, rule)
		}
		m := full()
		*p.x(&m) = deepExpr(12)
		checkNode(t, "12 expressions within one another", m, p.at, map[bool]int{true: 0, false: 6}[p.needs == "bool"])
	}
}

// P14.1, rule 6: Bodies of releases, into each variable.
func TestReleaseBodies(t *testing.T) {
	long := `"` + rep("s", 200) + `"`
	all := map[string]string{ // the variables that each one may be for
		`""`: "s", `"a"+"b"`: "s", "str(nan)": "s", `[""][0]`: "s", long: "s", `true?"":str(1/0)`: "s", `{a:""}.a`: "s", // of a type, and what they come to
		long + `+"s"`: "", "str(1/0)": "", `[""][1]`: "", `[""][-1]`: "", // an error
		"s": "", `true?"a":s`: "", `false&&n==1?"":""`: "", `"a"+str(n)`: "", "n": "", "yes": "", "yes||true": "", "true||yes": "", "f": "", "l": "", "[n]": "", "r": "", "ll": "", // a variable, come to or not
		`true?"a":1`: "", `true||1?"a":"b"`: "", `[1,""][1]`: "", "len([1,true])": "", "1==1p0": "", "true||1": "", "false&&1": "", // no type, though some come to a value
		"true": "yes", "1<2": "yes", "nan==nan": "yes", "{}=={}": "yes", "1/0==1": "",
		"7": "n", "-1": "n", "int(2p0)": "n", "9223372036854775807": "n", "9223372036854775807+1": "", "-(-9223372036854775807-1)": "", "1/0": "", "1%0": "", "int(nan)": "", "int(inf)": "",
		"7p0": "f", "-0p0": "f", "1p0/0p0": "f", "nan": "f", "float(1)": "f",
		"[]": "l ll", "[[]][0]": "l ll", "[1]": "l", "[1]+[2]": "l", "[]+[1]": "l", "[1,2]+[]": "l", "[1p0]": "", "[true]": "", "true?[]:[1]": "l ll", "true?[]:[s]": "",
		"{a:1,b:[]}": "r", `{b:["x"],a:-1}`: "r", "{a:1,b:[1]}": "", "{a:1}": "", "{}": "", "{a:1,b:[],c:[]}": "",
		"[[]]": "ll", "[[1p0],[]]": "ll", "[[nan]]+[]": "ll", "[[[]]]": "",
	}
	same := map[string]string{"yes": "!yes", "n": "n+1", "f": "f", "s": "s", "l": "l", "r": "r", "ll": "ll"}
	for at, v := range full().Vars {
		for text, fits := range all {
			m := withNode(20, func(n *api.Node) { n.Var, n.Expr, n.Body = at, expr(same[v.Name]), expr(text) })
			rule := 6
			if slices.Contains(strings.Fields(fits), v.Name) {
				rule = 0
			}
			checkNode(t, fmt.Sprint("Body ", text, " into ", v.Name), m, 20, rule)
			m.Nodes[20].Expr = expr("len(yes)")
			checkNode(t, fmt.Sprint("Body ", text, " into ", v.Name, ", Expr without a type"), m, 20, 6)
		}
	}
}

// P14.1, rule 6: what is waited for goes into each variable, from each message.
func TestReceivedBodies(t *testing.T) {
	keys := []string{"n", "{k:s}", "[f]"}
	into := []int{varL, varR, varLast}
	for _, at := range []int{14, 15, 18, 19} {
		for msg := range keys {
			for v := range full().Vars {
				m := withNode(at, func(n *api.Node) { n.Msg, n.Var, n.Expr = msg, v, expr(keys[msg]) })
				checkNode(t, fmt.Sprint("message ", msg, " into ", v), m, at, map[bool]int{true: 0, false: 6}[into[msg] == v])
				m.Nodes[at].Expr = expr(keys[(msg+1)%3])
				checkNode(t, fmt.Sprint("message ", msg, " into ", v, " by another key"), m, at, 6)
			}
		}
	}
	m := full()
	m.Msgs[msgInt].Body = listOf(typ(api.TNone)) // isn't ground, but stands for the variable's type
	check(t, "a message of empty lists", m, fault(3, msgInt))
	m.Msgs[msgInt].Body = typ(api.TNone)
	check(t, "a message of anything", m, fault(3, msgInt))
	m.Msgs[msgInt].Body = typ(0)
	check(t, "a message of no type", m, fault(3, msgInt), fault(6, 14), fault(6, 19))
	m = full()
	m.Msgs[msgInt].Key = typ(8)
	check(t, "a message with a key of no type", m, fault(3, msgInt), fault(6, 14), fault(6, 19))
	m.Msgs[msgInt].Key = typ(api.TNone)
	check(t, "a message with a key of anything", m, fault(3, msgInt), fault(6, 14), fault(6, 19))
	m = full()
	m.Msgs[msgRec].Body = typ(0)
	check(t, "a message that is sent, of no type", m, fault(3, msgRec), fault(6, 15), fault(6, 16))
}

// P14.1, rule 6: with variables that are at fault themselves.
func TestFaultyVars(t *testing.T) {
	m := plain()
	m.Vars = []api.Var{{Name: "x", Type: typ(api.TNone), Init: list()}, {Name: "y", Type: listOf(typ(api.TNone)), Init: list()}, {Name: "z", Type: listOf(typ(api.TInt)), Init: list()}}
	task := func(text string, v int) api.Node {
		n := node(api.NTask, 1)
		n.Expr, n.Var = expr(text), v
		return n
	}
	choose := node(api.NChoose, 1, 1)
	choose.Conds = exprs("x")
	m.Nodes = append(m.Nodes, task("y", 1), task("y", 2), task("z", 1), task("[x]", 2), task("x", 2), task("x", 0), task("z", 0), choose)
	check(t, "types with TNone", m, fault(2, 0), fault(2, 1), fault(6, 4), fault(6, 8), fault(6, 9))
	m.Vars[0].Type = typ(api.TBool)
	m.Vars[0].Init = truth(0)
	check(t, "types with TNone", m, fault(2, 1), fault(6, 4), fault(6, 5), fault(6, 6), fault(6, 8))
	m.Vars[1].Type = typ(9) // then no expression has a type
	check(t, "a type that isn't right", m, fault(2, 1), fault(6, 2), fault(6, 3), fault(6, 4), fault(6, 5), fault(6, 6), fault(6, 7), fault(6, 8), fault(6, 9))

	m = plain()
	m.Vars = []api.Var{{Name: "a", Type: typ(api.TInt), Init: num(0)}, {Name: "a", Type: typ(api.TStr), Init: str("")}, {Name: "B", Type: typ(api.TInt), Init: num(0)}}
	m.Nodes = append(m.Nodes, task("a", 0), task("a", 1), task("a", 2))
	check(t, "of two with one name the first one counts", m, fault(2, 1), fault(2, 2), fault(6, 3))
}
