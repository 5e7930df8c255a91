package pack

import (
	"strings"

	"bascule/api"
	"bascule/codec"
	"bascule/parse"
)

// A reader goes through bytes, and gives up by a panic of the error, wherever it stands. Its methods are its words: each reads what it is named for, and stands behind it then.
type reader struct {
	s  string
	at int
}

// read asks for a place of s.
func read[T any](s string, at int, word func(*reader) T) (T, int, api.Errno) {
	r := reader{s, at}
	got, e := caught(func() T { return word(&r) })
	if e != api.OK {
		return got, 0, e
	}
	return got, r.at, api.OK
}

// goOn takes what codec answered beside what it read. Of its errors none is told: the bytes are none then, however they fail.
func (r *reader) goOn(next int, e api.Errno) {
	insist(e == api.OK)
	r.at = next
}

func (r *reader) small() int {
	n, next, e := codec.ReadUint(r.s, r.at)
	r.goOn(next, e)
	insist(n <= mostSmall)
	return int(n)
}

func (r *reader) andOne() int {
	return r.small() - 1
}

func (r *reader) str(most int) string {
	s, next, e := codec.ReadStr(r.s, r.at, most)
	r.goOn(next, e)
	return s
}

func (r *reader) name() string {
	return r.str(api.MaxName)
}

func (r *reader) value() api.Value {
	v, next, e := codec.ReadValue(r.s, r.at)
	r.goOn(next, e)
	return v
}

func (r *reader) valueOrNone() api.Value {
	there := r.small()
	insist(there <= 1)
	if there == 0 {
		return api.Value{}
	}
	return r.value()
}

func (r *reader) typ() api.Type {
	t, next, e := codec.ReadType(r.s, r.at)
	r.goOn(next, e)
	return t
}

// expr takes no text but the one that is written: others may say the same.
func (r *reader) expr() api.Expr {
	text := r.str(api.MaxSource)
	if text == "" {
		return api.Expr{}
	}
	x, _, e := parse.Parse(text)
	insist(e == api.OK)
	again, e := parse.Text(x)
	insist(e == api.OK && again == text)
	return x
}

func (r *reader) pair() [2]int {
	return [2]int{r.small(), r.small()}
}

func (r *reader) wholeModel() api.Model {
	insist(strings.HasPrefix(r.s, magic))
	r.at = len(magic)
	m := r.model()
	insist(r.at == len(r.s))
	return m
}

func (r *reader) model() api.Model {
	return api.Model{
		Labels: r.small(),
		Order:  readList(r, (*reader).pair),
		Grants: readList(r, (*reader).pair),
		Vars:   readList(r, (*reader).variable),
		Msgs:   readList(r, (*reader).message),
		Nodes:  readList(r, (*reader).node),
	}
}

func (r *reader) variable() api.Var {
	return api.Var{Name: r.name(), Label: r.small(), Type: r.typ(), Init: r.value()}
}

func (r *reader) message() api.Msg {
	return api.Msg{Name: r.name(), Label: r.small(), Key: r.typ(), Body: r.typ()}
}

func (r *reader) node() api.Node {
	return api.Node{
		Kind:  r.small(),
		Label: r.small(),
		Next:  readList(r, (*reader).small),
		Conds: readList(r, (*reader).expr),
		Expr:  r.expr(),
		Body:  r.expr(),
		Var:   r.andOne(),
		Msg:   r.andOne(),
		Catch: r.andOne(),
		Wait:  r.small(),
		From:  r.small(),
	}
}

func (r *reader) cmd() api.Cmd {
	return api.Cmd{
		Kind: r.small(),
		Node: r.small(),
		Inst: api.Ref{Label: r.small(), N: r.small()},
		N:    r.small(),
		Key:  r.valueOrNone(),
		V:    r.valueOrNone(),
	}
}

func readList[T any](r *reader, word func(*reader) T) []T {
	n := r.small()
	insist(n <= mostThings)
	var list []T
	for range n {
		list = append(list, word(r))
	}
	return list
}
