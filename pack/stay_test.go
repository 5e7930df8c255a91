package pack

import (
	"math/rand"
	"strings"
	"testing"

	"bascule/api"
)

// Rule 5: what is handed in stays as it was, its spare room too, and bytes are new memory.
func TestModelsStay(t *testing.T) {
	r := rand.New(rand.NewSource(7))
	models := []api.Model{{}, full(), ofSize(t, 1<<14), ofSize(t, 1<<14+1), {Labels: -1, Vars: []api.Var{{Name: "x"}}}, {Nodes: []api.Node{{Expr: ofText(2001)}}}}
	for range 100 {
		models = append(models, anyModel(r))
	}
	for _, m := range models {
		withRoom(&m)
		before := laidOpen(m)
		s, e := Pack(m)
		checkNew(t, s, m)
		again, e2 := Pack(m)
		checkNew(t, again, m, s)
		if laidOpen(m) != before || again != s || e != e2 {
			t.Fatal("what was handed in became another one, or another answer comes")
		}
		told := strings.Clone(s)
		scribble(&m)
		if s != told || again != told {
			t.Fatal("an answer became another one")
		}
	}
}

// Rule 5, of commands.
func TestCmdsStay(t *testing.T) {
	r := rand.New(rand.NewSource(8))
	cmds := []api.Cmd{{}, fullCmd(), {Kind: -1, Key: str("x")}, {V: list(api.Value{})}}
	for range 300 {
		cmds = append(cmds, anyCmd(r))
	}
	for _, c := range cmds {
		withRoom(&c)
		before := laidOpen(c)
		s, e := Cmd(c)
		checkNew(t, s, c)
		again, e2 := Cmd(c)
		if laidOpen(c) != before || again != s || e != e2 {
			t.Fatal("what was handed in became another one, or another answer comes")
		}
		told := strings.Clone(s)
		scribble(&c)
		if s != told || again != told {
			t.Fatal("an answer became another one")
		}
	}
}

// Rules 5, 7: what is read is new memory, and no two lists of it share any.
func TestReadIsNew(t *testing.T) {
	r := rand.New(rand.NewSource(9))
	models := []api.Model{full(), ofSize(t, 1<<14), {Vars: sized(3, full().Vars[1]), Nodes: sized(3, full().Nodes[0])}}
	for range 200 {
		models = append(models, anyModel(r))
	}
	for _, m := range models {
		s := spellModel(m)
		a, _ := Unpack(s)
		b, _ := Unpack(s)
		checkNew(t, a, s, b)
		told := exactly(b)
		scribble(&a)
		if c, _ := Unpack(s); exactly(b) != told || exactly(c) != told || s != spellModel(m) {
			t.Fatal("an answer became another one")
		}
	}
	for range 500 {
		s := spellCmd(anyCmd(r))
		a, _, _ := ReadCmd(s, 0)
		b, _, _ := ReadCmd("\x80"+s, 1)
		checkNew(t, a, s, b)
		told := exactly(b)
		scribble(&a)
		if c, _, _ := ReadCmd(s, 0); exactly(b) != told || exactly(c) != told {
			t.Fatal("an answer became another one")
		}
	}
}

// Rule 4: lists of nothing are read as such, whatever is done with them then.
func TestEmptyIsNew(t *testing.T) {
	s := spellModel(api.Model{Nodes: make([]api.Node, 2)})
	a, _ := Unpack(s)
	a.Nodes[0].Next = append(a.Nodes[0].Next, 7)
	a.Order = append(a.Order, [2]int{1, 2})
	if b, _ := Unpack(s); len(a.Nodes[1].Next) != 0 || len(a.Grants) != 0 || spellModel(b) != s {
		t.Error("shared")
	}
}
