package pack

import (
	"math"
	"math/rand"
	"reflect"
	"strings"

	"bascule/api"
	"bascule/codec"
	"bascule/parse"
	"bascule/value"
)

// The document's words, read off the fields one by one: their order is that of the bytes.

// hasOne tells of which numbers one more is written.
func hasOne(field string) bool { return field == "Var" || field == "Msg" || field == "Catch" }

// number answers a number's bytes: groups of seven bits.
func number(n uint64) string {
	if n < 128 {
		return string([]byte{byte(n)})
	}
	return string([]byte{byte(128 + n%128)}) + number(n/128)
}

// piece is what is written in one go; what it is of: number, count, name, text, type, value, flag, magic.
type piece struct{ of, s string }

// pieces answers what is written of anything, whether that may be or not.
func pieces(v reflect.Value, field string) []piece {
	switch thing := v.Interface().(type) {
	case api.Value:
		s, _ := codec.Value(thing)
		switch {
		case field == "Init":
			return []piece{{"value", s}}
		case thing.Kind == 0:
			return []piece{{"flag", "\x00"}}
		}
		return []piece{{"flag", "\x01"}, {"value", s}}
	case api.Type:
		s, _ := codec.Type(thing)
		return []piece{{"type", s}}
	case api.Expr:
		s, _ := parse.Text(thing) // none for Kind 0
		return []piece{{"text", number(uint64(len(s))) + s}}
	}
	var all []piece
	switch v.Kind() {
	case reflect.Int:
		if hasOne(field) {
			return []piece{{"number", number(uint64(v.Int() + 1))}}
		}
		return []piece{{"number", number(uint64(v.Int()))}}
	case reflect.String:
		return []piece{{"name", number(uint64(v.Len())) + v.String()}}
	case reflect.Slice:
		all = append(all, piece{"count", number(uint64(v.Len()))})
		fallthrough
	case reflect.Array:
		for i := range v.Len() {
			all = append(all, pieces(v.Index(i), field)...)
		}
	case reflect.Struct:
		for i := range v.NumField() {
			all = append(all, pieces(v.Field(i), v.Type().Field(i).Name)...)
		}
	}
	return all
}

func modelPieces(m api.Model) []piece {
	return append([]piece{{"magic", "BPM1"}}, pieces(reflect.ValueOf(m), "")...)
}

func cmdPieces(c api.Cmd) []piece { return pieces(reflect.ValueOf(c), "") }

func joined(all []piece) string {
	var b strings.Builder
	for _, p := range all {
		b.WriteString(p.s)
	}
	return b.String()
}

func spellModel(m api.Model) string { return joined(modelPieces(m)) }
func spellCmd(c api.Cmd) string     { return joined(cmdPieces(c)) }

// isNothing tells whether all of it is zero, -0 being something, and no list of anything.
func isNothing(thing any) bool {
	return alike(thing, reflect.Zero(reflect.TypeOf(thing)).Interface())
}

// alike tells whether two things have the same in all fields, floats bit by bit; nil and an empty list are one.
func alike(a, b any) bool { return areAlike(reflect.ValueOf(a), reflect.ValueOf(b)) }

func areAlike(a, b reflect.Value) bool {
	switch a.Kind() {
	case reflect.Slice, reflect.Array:
		if a.Len() != b.Len() {
			return false
		}
		for i := range a.Len() {
			if !areAlike(a.Index(i), b.Index(i)) {
				return false
			}
		}
		return true
	case reflect.Struct:
		for i := range a.NumField() {
			if !areAlike(a.Field(i), b.Field(i)) {
				return false
			}
		}
		return true
	case reflect.Float64:
		return math.Float64bits(a.Float()) == math.Float64bits(b.Float())
	}
	return a.Equal(b)
}

// mayBe tells whether anything can be written so.
func mayBe(v reflect.Value, field string) bool {
	switch thing := v.Interface().(type) {
	case api.Value:
		return value.Right(thing) || field != "Init" && isNothing(thing)
	case api.Type:
		return value.TypeRight(thing)
	case api.Expr:
		s, e := parse.Text(thing)
		return e == api.OK && len(s) <= 2000 || isNothing(thing)
	}
	switch v.Kind() {
	case reflect.Int:
		if n := v.Int(); hasOne(field) {
			return n >= -1 && n <= 9999
		} else {
			return n >= 0 && n <= 10000
		}
	case reflect.String:
		return v.Len() <= 30
	case reflect.Slice, reflect.Array:
		if v.Kind() == reflect.Slice && v.Len() > 64 {
			return false
		}
		for i := range v.Len() {
			if !mayBe(v.Index(i), field) {
				return false
			}
		}
		return true
	}
	for i := range v.NumField() {
		if !mayBe(v.Field(i), v.Type().Field(i).Name) {
			return false
		}
	}
	return true
}

func mayBeModel(m api.Model) bool { return mayBe(reflect.ValueOf(m), "") }
func mayBeCmd(c api.Cmd) bool     { return mayBe(reflect.ValueOf(c), "") }

// hand reads by those words; what it reads once it has failed counts for nothing.
type hand struct {
	s      string
	at     int
	failed bool
}

func (h *hand) byte() byte {
	if h.at >= len(h.s) {
		h.failed = true
		return 0
	}
	h.at++
	return h.s[h.at-1]
}

// upTo reads a number, and fails of one above most, or in other bytes than its own.
func (h *hand) upTo(most int) int {
	from, n := h.at, uint64(0)
	for i := range 10 {
		b := uint64(h.byte())
		n |= b % 128 << (7 * i)
		if b < 128 {
			break
		}
	}
	if h.failed || h.s[from:h.at] != number(n) || n > uint64(most) {
		h.failed = true
		return 0
	}
	return int(n)
}

func (h *hand) text(most int) string {
	n := h.upTo(most)
	if n > len(h.s)-h.at {
		h.failed = true
	}
	if h.failed {
		return ""
	}
	h.at += n
	return h.s[h.at-n : h.at]
}

func (h *hand) value() api.Value {
	v, next, e := codec.ReadValue(h.s, h.at)
	h.failed = h.failed || e != api.OK
	h.at = max(h.at, next)
	return v
}

func (h *hand) typ() api.Type {
	t, next, e := codec.ReadType(h.s, h.at)
	h.failed = h.failed || e != api.OK
	h.at = max(h.at, next)
	return t
}

func (h *hand) expr() api.Expr {
	s := h.text(2000)
	if s == "" {
		return api.Expr{}
	}
	x, _, e := parse.Parse(s)
	again, _ := parse.Text(x)
	h.failed = h.failed || e != api.OK || again != s
	return x
}

// into asks for a part that can be set.
func (h *hand) into(v reflect.Value, field string) {
	if h.failed {
		return
	}
	switch thing := v.Addr().Interface().(type) {
	case *api.Value:
		if field == "Init" || h.upTo(1) == 1 {
			*thing = h.value()
		}
		return
	case *api.Type:
		*thing = h.typ()
		return
	case *api.Expr:
		*thing = h.expr()
		return
	}
	switch v.Kind() {
	case reflect.Int:
		n := h.upTo(10000)
		if hasOne(field) {
			n--
		}
		v.SetInt(int64(n))
	case reflect.String:
		v.SetString(h.text(30))
	case reflect.Slice:
		n := h.upTo(64)
		v.Set(reflect.MakeSlice(v.Type(), n, n))
		fallthrough
	case reflect.Array:
		for i := range v.Len() {
			h.into(v.Index(i), field)
		}
	case reflect.Struct:
		for i := range v.NumField() {
			h.into(v.Field(i), v.Type().Field(i).Name)
		}
	}
}

// handModel asks for no more bytes than there may be.
func handModel(s string) (m api.Model, e api.Errno) {
	if !strings.HasPrefix(s, "BPM1") {
		return m, api.ErrForm
	}
	h := &hand{s: s, at: 4}
	h.into(reflect.ValueOf(&m).Elem(), "")
	if h.failed || h.at != len(s) {
		return api.Model{}, api.ErrForm
	}
	return m, api.OK
}

// handCmd asks for a place of s.
func handCmd(s string, at int) (c api.Cmd, next int, e api.Errno) {
	h := &hand{s: s, at: at}
	h.into(reflect.ValueOf(&c).Elem(), "")
	if h.failed {
		return api.Cmd{}, 0, api.ErrForm
	}
	return c, h.at, api.OK
}

// Things to write.

func expr(text string) api.Expr {
	x, _, e := parse.Parse(text)
	if e != api.OK {
		panic("no expression: " + text)
	}
	return x
}

func exprs(texts ...string) []api.Expr {
	var all []api.Expr
	for _, text := range texts {
		all = append(all, expr(text))
	}
	return all
}

func x(s string, n int) string { return strings.Repeat(s, n) }

func truth(n int64) api.Value           { return api.Value{Kind: api.VBool, N: n} }
func num(n int64) api.Value             { return api.Value{Kind: api.VInt, N: n} }
func flo(f float64) api.Value           { return api.Value{Kind: api.VFloat, F: f} }
func floBits(b uint64) api.Value        { return flo(math.Float64frombits(b)) }
func str(s string) api.Value            { return api.Value{Kind: api.VStr, S: s} }
func list(items ...api.Value) api.Value { return api.Value{Kind: api.VList, Items: items} }
func constant(s string) api.Expr        { return api.Expr{Kind: api.EConst, V: str(s)} }

// rec takes its names with blanks between.
func rec(names string, items ...api.Value) api.Value {
	return api.Value{Kind: api.VRec, Names: strings.Fields(names), Items: items}
}

func typ(kind int) api.Type         { return api.Type{Kind: kind} }
func listOf(item api.Type) api.Type { return api.Type{Kind: api.TList, Items: []api.Type{item}} }
func recOf(names string, items ...api.Type) api.Type {
	return api.Type{Kind: api.TRec, Names: strings.Fields(names), Items: items}
}

// ofText answers an expression whose text has so many bytes, 4 at least: a list of strings, of which the first ones are as long as may be.
func ofText(n int) api.Expr {
	l := api.Expr{Kind: api.EList}
	for left := n - 2; left > 0; { // beside the list's brackets
		if len(l.Kids) > 0 {
			left-- // a comma
		}
		long := min(200, left-2)
		if rest := left - 2 - long; rest > 0 && rest < 3 {
			long -= 3
		}
		l.Kids = append(l.Kids, constant(x("t", long)))
		left -= 2 + long
	}
	return l
}

// full is a model with something in each field, and two things at least in each list.
func full() api.Model {
	return api.Model{
		Labels: 3,
		Order:  [][2]int{{0, 1}, {1, 2}},
		Grants: [][2]int{{2, 0}, {1, 200}, {2, 1}},
		Vars: []api.Var{
			{Name: "x", Label: 1, Type: typ(api.TInt), Init: num(-3)},
			{Name: "yes_1", Label: 2, Type: listOf(recOf("a b", typ(api.TStr), typ(api.TNone))), Init: list(rec("a b", str("s"), list()), truth(1))},
		},
		Msgs: []api.Msg{
			{Name: "m", Label: 1, Key: typ(api.TStr), Body: listOf(typ(api.TInt))},
			{Name: "", Label: 2, Key: recOf("k", typ(api.TFloat)), Body: typ(api.TBool)},
		},
		Nodes: []api.Node{
			{Kind: 5, Label: 1, Next: []int{1, 2, 300}, Conds: exprs("x<1", "yes_1[0].a==\"s\""), Expr: expr("{a:x,b:2p0}"), Body: expr("x"), Var: 1, Msg: 0, Catch: 2, Wait: 1000, From: 2},
			{Kind: 13, Label: 2, Next: []int{4, 0}, Conds: exprs("true", "a?b:c", "!d"), Expr: expr("-1"), Body: expr("[\"\\\"\"]"), Var: 3, Msg: 1, Catch: 200, Wait: 7, From: 1},
		},
	}
}

func fullCmd() api.Cmd {
	return api.Cmd{Kind: 3, Node: 2, Inst: api.Ref{Label: 1, N: 300}, N: 7, Key: rec("a", str("key")), V: list(flo(1.5), num(-2))}
}

// Things of any shape, all of which can be written.

func pick[T any](r *rand.Rand, from ...T) T { return from[r.Intn(len(from))] }

func anySmall(r *rand.Rand) int { return pick(r, 0, 1, 2, 3, 127, 128, 9999, 10000, r.Intn(10001)) }

func anyAndOne(r *rand.Rand) int { return pick(r, -1, 0, 1, 126, 127, 9999, r.Intn(10000)) }

func anyName(r *rand.Rand) string {
	return pick(r, "", "a", "x1", "\x00", "\xff\xfe", "é", "BPM1", x("n", 29), x("\x80", 30))
}

func anyList[T any](r *rand.Rand, thing func(*rand.Rand) T) []T {
	var l []T
	for range pick(r, 0, 0, 1, 1, 2, 3, 5) {
		l = append(l, thing(r))
	}
	return l
}

func anyPair(r *rand.Rand) [2]int { return [2]int{anySmall(r), anySmall(r)} }

func anyValue(r *rand.Rand) api.Value {
	switch r.Intn(8) {
	case 0:
		return truth(int64(r.Intn(2)))
	case 1:
		return floBits(pick(r, 0, 1<<63, 0x7FF8000000000000, 0x7FF0000000000000, 0xFFF0000000000000, math.Float64bits(1.5), 1))
	case 2:
		return str(pick(r, "", "a", "\x00\xff", x("s", 127), x("s", 200)))
	case 3:
		return list(anyList(r, anyValue)...)
	case 4:
		return rec("a b_1 true", anyValue(r), num(0), anyValue(r))
	}
	return num(int64(r.Uint64()) >> r.Intn(64))
}

func anyValueOrNone(r *rand.Rand) api.Value {
	if v := anyValue(r); value.Right(v) && r.Intn(4) > 0 {
		return v
	}
	return api.Value{}
}

func anyType(r *rand.Rand) api.Type {
	switch r.Intn(8) {
	case 0:
		return listOf(anyType(r))
	case 1:
		return recOf("a b_1", anyType(r), anyType(r))
	}
	return typ(pick(r, api.TBool, api.TInt, api.TFloat, api.TStr, api.TNone))
}

func anyExpr(r *rand.Rand) api.Expr {
	return pick(r, api.Expr{}, api.Expr{}, expr("0"), expr("a"), expr("a+b*c"), expr("{b:1,a:[x,[]]}"), expr("(1).a[-2]"), expr("\"\\\\\"==\"\x00\xff\""), expr("nan<-inf||!true"), expr("len(str(0p0))?{}:float(int(y))"), ofText(100), ofText(130))
}

func anyModel(r *rand.Rand) api.Model {
	for {
		m := api.Model{
			Labels: anySmall(r), Order: anyList(r, anyPair), Grants: anyList(r, anyPair),
			Vars: anyList(r, func(r *rand.Rand) api.Var {
				return api.Var{Name: anyName(r), Label: anySmall(r), Type: anyType(r), Init: anyValue(r)}
			}),
			Msgs: anyList(r, func(r *rand.Rand) api.Msg {
				return api.Msg{Name: anyName(r), Label: anySmall(r), Key: anyType(r), Body: anyType(r)}
			}),
			Nodes: anyList(r, func(r *rand.Rand) api.Node {
				return api.Node{Kind: anySmall(r), Label: anySmall(r), Next: anyList(r, anySmall), Conds: anyList(r, anyExpr), Expr: anyExpr(r), Body: anyExpr(r), Var: anyAndOne(r), Msg: anyAndOne(r), Catch: anyAndOne(r), Wait: anySmall(r), From: anySmall(r)}
			}),
		}
		if mayBeModel(m) && len(spellModel(m)) <= 1<<14 { // a value, or a type, may be too great
			return m
		}
	}
}

func anyCmd(r *rand.Rand) api.Cmd {
	return api.Cmd{Kind: anySmall(r), Node: anySmall(r), Inst: api.Ref{Label: anySmall(r), N: anySmall(r)}, N: anySmall(r), Key: anyValueOrNone(r), V: anyValueOrNone(r)}
}

// turned answers s with something in it changed, or cut off.
func turned(r *rand.Rand, s string) string {
	if s == "" {
		return s
	}
	i := r.Intn(len(s))
	c := string([]byte{pick(r, 0, 1, 2, 3, 4, 5, 6, 7, 30, 31, 40, 41, 64, 65, 78, 127, 128, 144, 145, 200, 255, byte(r.Intn(256)))})
	switch r.Intn(6) {
	case 0:
		return s[:i]
	case 1:
		return s[:i] + s[i+1:]
	case 2:
		return s[:i] + c + s[i:]
	case 3:
		j := i + r.Intn(len(s)-i)
		return s[:j] + s[i:]
	}
	return s[:i] + c + s[i+1:]
}
