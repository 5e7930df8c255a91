package pack

import (
	"bascule/api"
	"bascule/codec"
	"bascule/none"
	"bascule/parse"
)

// A writer gathers bytes, and gives up by a panic of the error on what can't be written. Its methods stand one by one for those of the reader.
type writer struct {
	bytes []byte
}

func write[T any](thing T, word func(*writer, T)) (string, api.Errno) {
	return caught(func() string {
		var w writer
		word(&w, thing)
		return string(w.bytes)
	})
}

func (w *writer) put(s string) {
	w.bytes = append(w.bytes, s...)
}

func (w *writer) small(n int) {
	insist(n >= 0 && n <= mostSmall)
	w.put(codec.Uint(uint64(n)))
}

// andOne need not ask for the greatest int: one more than it is below 0.
func (w *writer) andOne(n int) {
	w.small(n + 1)
}

func (w *writer) str(s string, most int) {
	insist(len(s) <= most)
	w.put(codec.Str(s))
}

func (w *writer) name(s string) {
	w.str(s, api.MaxName)
}

func (w *writer) value(v api.Value) {
	s, e := codec.Value(v)
	insist(e == api.OK)
	w.put(s)
}

func (w *writer) valueOrNone(v api.Value) {
	if v.Kind == 0 {
		insist(none.Value(v))
		w.small(0)
		return
	}
	w.small(1)
	w.value(v)
}

func (w *writer) typ(t api.Type) {
	s, e := codec.Type(t)
	insist(e == api.OK)
	w.put(s)
}

func (w *writer) expr(x api.Expr) {
	if x.Kind == 0 {
		insist(none.Expr(x))
		w.str("", api.MaxSource)
		return
	}
	text, e := parse.Text(x)
	insist(e == api.OK)
	w.str(text, api.MaxSource)
}

func (w *writer) pair(p [2]int) {
	w.small(p[0])
	w.small(p[1])
}

func (w *writer) model(m api.Model) {
	w.put(magic)
	w.small(m.Labels)
	writeList(w, m.Order, (*writer).pair)
	writeList(w, m.Grants, (*writer).pair)
	writeList(w, m.Vars, (*writer).variable)
	writeList(w, m.Msgs, (*writer).message)
	writeList(w, m.Nodes, (*writer).node)
}

func (w *writer) variable(v api.Var) {
	w.name(v.Name)
	w.small(v.Label)
	w.typ(v.Type)
	w.value(v.Init)
}

func (w *writer) message(m api.Msg) {
	w.name(m.Name)
	w.small(m.Label)
	w.typ(m.Key)
	w.typ(m.Body)
}

func (w *writer) node(n api.Node) {
	w.small(n.Kind)
	w.small(n.Label)
	writeList(w, n.Next, (*writer).small)
	writeList(w, n.Conds, (*writer).expr)
	w.expr(n.Expr)
	w.expr(n.Body)
	w.andOne(n.Var)
	w.andOne(n.Msg)
	w.andOne(n.Catch)
	w.small(n.Wait)
	w.small(n.From)
}

func (w *writer) cmd(c api.Cmd) {
	w.small(c.Kind)
	w.small(c.Node)
	w.small(c.Inst.Label)
	w.small(c.Inst.N)
	w.small(c.N)
	w.valueOrNone(c.Key)
	w.valueOrNone(c.V)
}

func writeList[T any](w *writer, list []T, word func(*writer, T)) {
	insist(len(list) <= mostThings)
	w.small(len(list))
	for _, thing := range list {
		word(w, thing)
	}
}
