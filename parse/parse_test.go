package parse

import (
	"fmt"
	"math"
	"math/rand"
	"slices"
	"strings"
	"testing"
	"unsafe"

	"bascule/api"
	"bascule/lex"
)

const theNaN = 0x7FF8000000000000

func rep(s string, n int) string { return strings.Repeat(s, n) }

func con(v api.Value) api.Expr { return api.Expr{Kind: api.EConst, V: v} }
func num(n int64) api.Expr     { return con(api.Value{Kind: api.VInt, N: n}) }
func flo(f float64) api.Expr   { return con(api.Value{Kind: api.VFloat, F: f}) }
func str(s string) api.Expr    { return con(api.Value{Kind: api.VStr, S: s}) }
func truth(n int64) api.Expr   { return con(api.Value{Kind: api.VBool, N: n}) }
func nan() api.Expr            { return flo(math.Float64frombits(theNaN)) }
func vari(s string) api.Expr   { return api.Expr{Kind: api.EVar, S: s} }

func of(kind int, kids ...api.Expr) api.Expr { return api.Expr{Kind: kind, Kids: kids} }

func list(kids ...api.Expr) api.Expr { return of(api.EList, kids...) }

// rec is told its names with blanks between.
func rec(names string, kids ...api.Expr) api.Expr {
	return api.Expr{Kind: api.ERec, Names: strings.Fields(names), Kids: kids}
}

func field(x api.Expr, name string) api.Expr {
	return api.Expr{Kind: api.EField, S: name, Kids: []api.Expr{x}}
}

func index(a, b api.Expr) api.Expr { return of(api.EIndex, a, b) }

// identical holds each field of both, floats bit by bit.
func identical(a, b api.Expr) bool {
	return a.Kind == b.Kind && a.S == b.S && identicalValues(a.V, b.V) && slices.Equal(a.Names, b.Names) && slices.EqualFunc(a.Kids, b.Kids, identical)
}

func identicalValues(a, b api.Value) bool {
	return a.Kind == b.Kind && a.N == b.N && math.Float64bits(a.F) == math.Float64bits(b.F) && a.S == b.S && slices.Equal(a.Names, b.Names) && slices.EqualFunc(a.Items, b.Items, identicalValues)
}

// size counts by hand what a tree has in all, and within one another.
func size(x api.Expr) (parts, depth int) {
	for _, kid := range x.Kids {
		p, d := size(kid)
		parts += p
		depth = max(depth, d)
	}
	return parts + 1, depth + 1
}

// What the expressions are, by the document's grammar, read by hand with a stack in place of calls within calls.

// opened is something that waits for an expr, and perhaps for more of them. Its kind is 0 for brackets around an expr, and one of those below.
type opened struct {
	kind      int
	ends      string // the sign that does
	within    int    // how many of the grammar's expr and unary its expr is, with itself
	kids      []api.Expr
	names     []string
	operands  []api.Expr
	operators []waiting
	prefixes  int // ahead of the last operand
}

const (
	whole = -1 - iota
	thenPart
	elsePart
)

// waiting is an operator whose last Kid isn't whole.
type waiting struct {
	kind, strength int
	one            bool // it has one Kid
}

var twos = map[string]waiting{
	"||": {api.EOr, 1, false}, "&&": {api.EAnd, 2, false}, "==": {api.EEq, 3, false}, "<": {api.ELess, 3, false}, "<=": {api.ELeq, 3, false},
	"+": {api.EAdd, 4, false}, "-": {api.ESub, 4, false}, "*": {api.EMul, 5, false}, "/": {api.EDiv, 5, false}, "%": {api.EMod, 5, false},
}

var ones = map[string]waiting{"-": {api.ENeg, 6, true}, "!": {api.ENot, 6, true}}

var calls = map[string]int{"len": api.ELen, "float": api.EFloat, "int": api.EInt, "str": api.EStr}

type stopped struct {
	at int
	e  api.Errno
}

type seeker struct {
	tokens []api.Token
	stack  []*opened
}

// seek answers by hand what Parse is to answer.
func seek(text string) (x api.Expr, at int, e api.Errno) {
	tokens, at, e := lex.All(text)
	if e != api.OK {
		return api.Expr{}, at, e
	}
	defer func() {
		switch why := recover().(type) {
		case nil:
		case stopped:
			x, at, e = api.Expr{}, why.at, why.e
		default:
			panic(why)
		}
	}()
	s := &seeker{tokens: append(tokens, api.Token{Kind: api.KEnd, At: len(text)})}
	s.open(&opened{kind: whole, within: 1})
	for {
		for !s.operand() {
		}
		for s.behind() {
		}
		if last := s.top(); last.kind == whole && len(last.kids) == 1 {
			if parts, depth := size(last.kids[0]); parts > 200 || depth > 12 {
				return api.Expr{}, 0, api.ErrDeep
			}
			return last.kids[0], 0, api.OK
		}
	}
}

func (s *seeker) top() *opened { return s.stack[len(s.stack)-1] }

func (s *seeker) pop() *opened {
	top := s.top()
	s.stack = s.stack[:len(s.stack)-1]
	return top
}

func (s *seeker) is(sign string) bool {
	return s.tokens[0].Kind == api.KSign && s.tokens[0].S == sign
}

func (s *seeker) wrong() { panic(stopped{s.tokens[0].At, api.ErrForm}) }

func (s *seeker) next() { s.tokens = s.tokens[1:] }

func (s *seeker) within(n int) {
	if n > 100 {
		panic(stopped{0, api.ErrDeep})
	}
}

func (s *seeker) open(o *opened) {
	s.within(o.within)
	s.stack = append(s.stack, o)
	s.begin()
}

// openHere opens something within the operand that stands here.
func (s *seeker) openHere(kind int, ends string, kids ...api.Expr) {
	s.open(&opened{kind: kind, ends: ends, kids: kids, within: s.top().within + 1 + s.top().prefixes + 1})
}

// begin stands ahead of an operand.
func (s *seeker) begin() {
	s.top().prefixes = 0
	s.within(s.top().within + 1)
}

// name stands at a record's name.
func (s *seeker) name(names []string) string {
	t := s.tokens[0]
	if t.Kind != api.KName || slices.Contains(names, t.S) {
		s.wrong()
	}
	s.next()
	return t.S
}

func (s *seeker) sign(sign string) {
	if !s.is(sign) {
		s.wrong()
	}
	s.next()
}

// operand reads what may stand ahead of an operand, and tells whether it was whole with that.
func (s *seeker) operand() bool {
	t, o := s.tokens[0], s.top()
	var x api.Expr
	switch t.Kind {
	case api.KInt:
		x = num(t.N)
	case api.KFloat:
		x = flo(t.F)
	case api.KStr:
		x = str(t.S)
	case api.KName:
		switch {
		case t.S == "true":
			x = truth(1)
		case t.S == "false":
			x = truth(0)
		case calls[t.S] > 0:
			s.next()
			s.sign("(")
			s.openHere(calls[t.S], ")")
			return false
		default:
			x = vari(t.S)
		}
	default:
		return s.bracket()
	}
	s.next()
	o.operands = append(o.operands, x)
	return true
}

func (s *seeker) bracket() bool {
	o := s.top()
	switch {
	case s.is("-"), s.is("!"):
		o.operators = append(o.operators, ones[s.tokens[0].S])
		o.prefixes++
		s.within(o.within + 1 + o.prefixes)
		s.next()
	case s.is("("):
		s.next()
		s.openHere(0, ")")
	case s.is("["):
		s.next()
		if s.is("]") {
			s.next()
			o.operands = append(o.operands, list())
			return true
		}
		s.openHere(api.EList, "]")
	case s.is("{"):
		s.next()
		if s.is("}") {
			s.next()
			o.operands = append(o.operands, rec(""))
			return true
		}
		name := s.name(nil)
		s.sign(":")
		s.openHere(api.ERec, "}")
		s.top().names = []string{name}
	default:
		s.wrong()
	}
	return false
}

// behind stands behind an operand, and tells whether it still does so; if not, one is to follow, or all is read.
func (s *seeker) behind() bool {
	o := s.top()
	last := len(o.operands) - 1
	switch {
	case s.is("."):
		s.next()
		if s.tokens[0].Kind != api.KName {
			s.wrong()
		}
		o.operands[last] = field(o.operands[last], s.tokens[0].S)
		s.next()
		return true
	case s.is("["):
		s.next()
		x := o.operands[last]
		o.operands = o.operands[:last]
		s.openHere(api.EIndex, "]", x)
		return false
	case s.is("?"):
		s.next()
		s.open(&opened{kind: thenPart, ends: ":", within: o.within + 1, kids: []api.Expr{o.settle(0)}})
		return false
	}
	if two, is := twos[s.tokens[0].S]; is && s.tokens[0].Kind == api.KSign {
		o.settle(two.strength)
		if two.strength == 3 && len(o.operators) > 0 && o.operators[len(o.operators)-1].strength == 3 {
			s.wrong()
		}
		o.operators = append(o.operators, two)
		s.next()
		s.begin()
		return false
	}
	return s.close()
}

// settle makes operands of all operators that bind as strongly, or more so (two that compare stay beside each other); of all, it answers what comes.
func (o *opened) settle(strength int) (x api.Expr) {
	for len(o.operators) > 0 {
		at, last := len(o.operators)-1, len(o.operands)-1
		w := o.operators[at]
		if w.strength < strength || w.strength == 3 && strength == 3 {
			return x
		}
		o.operators = o.operators[:at]
		if w.one {
			o.operands[last] = of(w.kind, o.operands[last])
		} else {
			o.operands = append(o.operands[:last-1:last-1], of(w.kind, o.operands[last-1], o.operands[last]))
		}
	}
	x = o.operands[0]
	if strength == 0 {
		o.operands = nil
	}
	return x
}

// close stands where an expr ends.
func (s *seeker) close() bool {
	x := s.top().settle(0)
	for s.top().kind == elsePart {
		o := s.pop()
		x = of(api.EIf, o.kids[0], o.kids[1], x)
	}
	o := s.top()
	if o.kind == whole {
		if s.tokens[0].Kind != api.KEnd {
			s.wrong()
		}
		o.kids = []api.Expr{x}
		return false
	}
	if s.is(",") && (o.kind == api.EList || o.kind == api.ERec) {
		s.next()
		o.kids = append(o.kids, x)
		if o.kind == api.ERec {
			o.names = append(o.names, s.name(o.names))
			s.sign(":")
		}
		s.begin()
		return false
	}
	s.sign(o.ends)
	s.pop()
	if o.kind == thenPart {
		s.open(&opened{kind: elsePart, within: o.within, kids: append(o.kids, x)})
		return false
	}
	s.top().operands = append(s.top().operands, o.with(x))
	return true
}

// with answers what it is with its last expr.
func (o *opened) with(x api.Expr) api.Expr {
	switch o.kind {
	case 0:
		return x
	case api.ERec:
		kids := append(o.kids, x)
		sorted := rec("")
		sorted.Names = slices.Sorted(slices.Values(o.names))
		for _, name := range sorted.Names {
			sorted.Kids = append(sorted.Kids, kids[slices.Index(o.names, name)])
		}
		return sorted
	}
	return of(o.kind, append(o.kids, x)...)
}

func show(x api.Expr) string {
	if s := fmt.Sprintf("%+v", x); len(s) < 500 {
		return s
	}
	return "one that is long"
}

func check(t *testing.T, text string, want api.Expr) {
	t.Helper()
	if got, at, e := Parse(text); !identical(got, want) || at != 0 || e != api.OK {
		t.Fatalf("%.80q (%d bytes): %s at %d, error %d, not %s", text, len(text), show(got), at, e, show(want))
	}
}

func checkError(t *testing.T, text string, at int, e api.Errno) {
	t.Helper()
	if got, gotAt, gotE := Parse(text); !identical(got, api.Expr{}) || gotAt != at || gotE != e {
		t.Fatalf("%.80q (%d bytes): %s at %d, error %d, not error %d at %d", text, len(text), show(got), gotAt, gotE, e, at)
	}
}

// checkText holds what is read of a text against what is read by hand.
func checkText(t *testing.T, text string) {
	t.Helper()
	if want, at, e := seek(text); e == api.OK {
		check(t, text, want)
		checkRead(t, want)
	} else {
		checkError(t, text, at, e)
	}
}

// checkRead wants what was read to be right, and to be read again from its text.
func checkRead(t *testing.T, x api.Expr) {
	t.Helper()
	s, e := Text(x)
	if !Right(x) || e != api.OK {
		t.Fatalf("%s: read, but not right (%v), error %d", show(x), Right(x), e)
	}
	if len(s) <= 2000 {
		check(t, s, x)
	}
}

// Tokens of all kinds, with more than one where the parser tells them apart.
var (
	signs  = strings.Fields("== <= && || ( ) [ ] { } , : . ? + - * / % ! <")
	words  = strings.Fields("true false len float int str") // but nan and inf, which are no names
	firsts = strings.Fields(`1 0 2p0 nan inf "s" "-" "a" "" a b true false len float int str - ! ( [ {`)
	tokens = append(strings.Fields(`1 0 2p0 nan inf "s" "-" "a" "" a b true false len float int str`), signs...)
	infix  = strings.Fields("|| && == < <= + - * / %")
)

var strengths = map[string]int{"||": 1, "&&": 2, "==": 3, "<": 3, "<=": 3, "+": 4, "-": 4, "*": 5, "/": 5, "%": 5}

var kinds = map[string]int{"||": api.EOr, "&&": api.EAnd, "==": api.EEq, "<": api.ELess, "<=": api.ELeq, "+": api.EAdd, "-": api.ESub, "*": api.EMul, "/": api.EDiv, "%": api.EMod}

// P8.1, P8.2: the chapter's examples.
func TestExamples(t *testing.T) {
	for s, want := range map[string]string{"1+2*x": "(1+(2*x))", "a.b[0] ? -1 : !c": "(a.b[0]?(-1):(!c))", "{b:1,a:2}": "{a:2,b:1}"} {
		x, at, e := Parse(s)
		if got, gotE := Text(x); at != 0 || e != api.OK || got != want || gotE != api.OK {
			t.Errorf("%q: at %d, error %d, then %q, error %d", s, at, e, got, gotE)
		}
	}
	checkError(t, "1 +", 3, api.ErrForm)
}

// P8.1: each kind by itself, and what stands for nothing in it.
func TestKinds(t *testing.T) {
	a, b, c := vari("a"), vari("b"), vari("c")
	for s, want := range map[string]api.Expr{
		"a": a, "(a)": a, "((a))": a, "truex": vari("truex"), "len1": vari("len1"), rep("n", 30): vari(rep("n", 30)),
		"-a": of(api.ENeg, a), "!a": of(api.ENot, a), "--a": of(api.ENeg, of(api.ENeg, a)), "!-a": of(api.ENot, of(api.ENeg, a)), "-!a": of(api.ENeg, of(api.ENot, a)),
		"a?b:c": of(api.EIf, a, b, c), "[]": list(), "[a]": list(a), "[a,b,a]": list(a, b, a), "[[],[a]]": list(list(), list(a)),
		"{}": rec(""), "{a:b}": rec("a", b), "{a:b,b:a}": rec("a b", b, a), "{a:{a:a}}": rec("a", rec("a", a)),
		"a.b": field(a, "b"), "a.b.c": field(field(a, "b"), "c"), "a[b]": index(a, b), "a[b][c]": index(index(a, b), c), "a[b[c]]": index(a, index(b, c)), "a.b[c].a": field(index(field(a, "b"), c), "a"),
		"len(a)": of(api.ELen, a), "float(a)": of(api.EFloat, a), "int(a)": of(api.EInt, a), "str(a)": of(api.EStr, a), "len(len(a))": of(api.ELen, of(api.ELen, a)),
		"len(a).b": field(of(api.ELen, a), "b"), "len(a)[b]": index(of(api.ELen, a), b), "[a][b]": index(list(a), b), "{a:b}.a": field(rec("a", b), "a"), "(a?b:c).a": field(of(api.EIf, a, b, c), "a"),
		"1.a": field(num(1), "a"), `"s"[1]`: index(str("s"), num(1)), "true.a": field(truth(1), "a"), "nan[inf]": index(nan(), flo(math.Inf(1))),
	} {
		check(t, s, want)
		checkText(t, s)
		check(t, " \t\n\r"+s+"\n", want)
	}
	check(t, "\ta\n.\rb [ 0 ] ?\n\n- 1 : !  c  ", of(api.EIf, index(field(a, "b"), num(0)), of(api.ENeg, num(1)), of(api.ENot, c)))
}

// P8.1: constants of each kind, at their edges.
func TestConstants(t *testing.T) {
	for s, want := range map[string]api.Expr{
		"true": truth(1), "false": truth(0), "0": num(0), "1": num(1), "007": num(7), "9223372036854775807": num(math.MaxInt64),
		"0p0": flo(0), "0p-5": flo(0), "1p0": flo(1), "3p-1": flo(1.5), "1p-1074": flo(math.SmallestNonzeroFloat64), "9007199254740991p971": flo(math.MaxFloat64), "nan": nan(), "inf": flo(math.Inf(1)),
		`""`: str(""), `"a"`: str("a"), `"\"\\"`: str(`"\`), `"` + rep("x", 200) + `"`: str(rep("x", 200)), "\"\x00\xff\n\"": str("\x00\xff\n"), `"1+2"`: str("1+2"),
	} {
		check(t, s, want)
		check(t, "("+s+")", want)
		check(t, "-"+s, of(api.ENeg, want))
		check(t, s+"-"+s, of(api.ESub, want, want))
	}
	check(t, "-9223372036854775807", of(api.ENeg, num(math.MaxInt64)))
	checkError(t, "-9223372036854775808", 1, api.ErrRange)
}

// P8.1: each operator by itself and beside each other one, by how strongly they bind, from the left where they bind alike; of two that compare the second one may not stand there.
func TestOperators(t *testing.T) {
	a, b, c, d := vari("a"), vari("b"), vari("c"), vari("d")
	for _, o := range infix {
		check(t, "a"+o+"b", of(kinds[o], a, b))
		check(t, "-a"+o+"-b", of(kinds[o], of(api.ENeg, a), of(api.ENeg, b)))
		check(t, "!a"+o+"!b", of(kinds[o], of(api.ENot, a), of(api.ENot, b)))
		check(t, "a.b"+o+"c[d]", of(kinds[o], field(a, "b"), index(c, d)))
		check(t, "-a.b"+o+"!c[d]", of(kinds[o], of(api.ENeg, field(a, "b")), of(api.ENot, index(c, d))))
		check(t, "a"+o+"b?c"+o+"d:d"+o+"a", of(api.EIf, of(kinds[o], a, b), of(kinds[o], c, d), of(kinds[o], d, a)))
		check(t, "(a?b:c)"+o+"d", of(kinds[o], of(api.EIf, a, b, c), d))
		check(t, "len(a)"+o+"[b]", of(kinds[o], of(api.ELen, a), list(b)))
		for _, p := range infix {
			text := "a" + o + "b" + p + "c"
			switch first, second := kinds[o], kinds[p]; {
			case strengths[o] == 3 && strengths[p] == 3:
				checkError(t, text, len("a"+o+"b"), api.ErrForm)
				check(t, "a"+o+"(b"+p+"c)", of(first, a, of(second, b, c)))
				check(t, "(a"+o+"b)"+p+"c", of(second, of(first, a, b), c))
			case strengths[o] >= strengths[p]:
				check(t, text, of(second, of(first, a, b), c))
				check(t, "a"+o+"(b"+p+"c)", of(first, a, of(second, b, c)))
			default:
				check(t, text, of(first, a, of(second, b, c)))
				check(t, "(a"+o+"b)"+p+"c", of(second, of(first, a, b), c))
			}
			for _, q := range infix {
				checkText(t, text+q+"d")
				checkText(t, "-"+text+q+"-1?a:b")
			}
		}
	}
	check(t, "a?b:c?d:a", of(api.EIf, a, b, of(api.EIf, c, d, a)))
	check(t, "a?b?c:d:a", of(api.EIf, a, of(api.EIf, b, c, d), a))
	check(t, "a?b:c||d?a:b", of(api.EIf, a, b, of(api.EIf, of(api.EOr, c, d), a, b)))
}

// standing is a text and the tokens that may stand behind it; whole: it may end there.
type standing struct {
	text, may string
	whole     bool
}

const operand = `1 0 2p0 nan inf "s" "-" "a" "" a b true false len float int str - ! ( [ { `

const names = "a b true false len float int str "

const operators = "|| && == < <= + - * / % . [ ? "

var standings = []standing{
	{"", operand, false}, {"-", operand, false}, {"!", operand, false}, {"- !", operand, false}, {"(", operand, false}, {"[", operand + "]", false}, {"[ 1 ,", operand, false}, {"a [", operand, false},
	{"{", names + "}", false}, {"{ c", ":", false}, {"{ len", ":", false}, {"{ c :", operand, false}, {"{ c : 1 ,", names, false}, {"{ a : 1 ,", "b true false len float int str", false}, {"{ a : 1 , true : 2 ,", "b false len float int str", false},
	{"a .", names, false}, {"a . b", operators, true}, {"a . true", operators, true}, {"a . len", operators, true},
	{"len", "(", false}, {"float", "(", false}, {"int", "(", false}, {"str", "(", false}, {"len (", operand, false}, {"len ( a", operators + ")", false}, {"str ( a )", operators, true},
	{"a ?", operand, false}, {"a ? b", operators + ":", false}, {"a ? b :", operand, false}, {"a ? b : c", operators, true}, {"a ? b ? c : d", operators + ":", false}, {"( a ? b : c )", operators, true},
	{"1", operators, true}, {"2p0", operators, true}, {"nan", operators, true}, {"inf", operators, true}, {`"s"`, operators, true}, {"true", operators, true}, {"false", operators, true}, {"a", operators, true}, {"- a", operators, true}, {"( a )", operators, true},
	{"( a", operators + ")", false}, {"[ a", operators + ", ]", false}, {"[ ]", operators, true}, {"[ a ]", operators, true}, {"b [ a", operators + "]", false}, {"b [ a ]", operators, true}, {"{ c : a", operators + ", }", false}, {"{ c : a }", operators, true}, {"{ }", operators, true},
	{"a + b", operators, true}, {"a || b", operators, true}, {"a && b", operators, true}, {"a * b", operators, true}, {"a == b || c", operators, true},
	{"a == b", "|| && + - * / % . [ ?", true}, {"a < b", "|| && + - * / % . [ ?", true}, {"a <= b", "|| && + - * / % . [ ?", true}, {"a < - b + c * d", "|| && + - * / % . [ ?", true}, {"( a < b", "|| && + - * / % . [ ? )", false}, {"( a < b )", operators, true},
	{"a ||", operand, false}, {"a &&", operand, false}, {"a ==", operand, false}, {"a <", operand, false}, {"a <=", operand, false}, {"a +", operand, false}, {"a -", operand, false}, {"a *", operand, false}, {"a /", operand, false}, {"a %", operand, false},
}

// P8.1: each token where it may not stand, whatever comes behind it; where it may, it isn't refused there.
func TestMisplaced(t *testing.T) {
	for _, s := range standings {
		may := strings.Fields(s.may)
		for _, token := range tokens {
			place := len(s.text) + 1
			if slices.Contains(may, token) {
				if _, at, e := Parse(s.text + " " + token); e == api.ErrForm && at == place {
					t.Errorf("%s may not stand behind %q", token, s.text)
				}
				continue
			}
			for _, behind := range []string{"", " ", " a", " )", " 1 + ", " ]", " : 1 }"} {
				checkError(t, s.text+" "+token+behind, place, api.ErrForm)
				checkError(t, "  "+s.text+"\n\t"+token+behind, place+3, api.ErrForm)
			}
		}
		for _, behind := range []string{"", " ", "\n\t  "} {
			if _, _, e := Parse(s.text + behind); s.whole && e != api.OK {
				t.Errorf("%q may not end: %d", s.text, e)
			}
			if !s.whole {
				checkError(t, s.text+behind, len(s.text+behind), api.ErrForm)
			}
		}
	}
}

// P8.1: a string that looks like a sign, or a name, is none.
func TestStringsAreNoSigns(t *testing.T) {
	for _, s := range signs {
		checkError(t, `1 "`+s+`" 2`, 2, api.ErrForm)
		checkError(t, `a "`+s, 2, api.ErrTorn)
	}
	for _, s := range append(words, "a", "nan") {
		check(t, `"`+s+`"`, str(s))
		checkError(t, `a."`+s+`"`, 2, api.ErrForm)
		checkError(t, `{"`+s+`":1}`, 1, api.ErrForm)
		checkError(t, `"`+s+`"(1)`, len(s)+2, api.ErrForm)
	}
}

// P8.1: behind a full stop, and in a record, words are names; nan and inf are none.
func TestWordsAsNames(t *testing.T) {
	for _, s := range append(words, "a", "nan_", "infx", rep("a", 30)) {
		check(t, "a."+s, field(vari("a"), s))
		check(t, "a . "+s+".b", field(field(vari("a"), s), "b"))
		check(t, "{"+s+":1}", rec(s, num(1)))
		check(t, "{"+s+" : true}", rec(s, truth(1)))
	}
	for _, s := range []string{"nan", "inf", "1", "1p0", `"a"`, "(a)", "-a", "[a]"} {
		checkError(t, "a."+s, 2, api.ErrForm)
		checkError(t, "a. "+s+".b", 3, api.ErrForm)
		checkError(t, "{"+s+":1}", 1, api.ErrForm)
		checkError(t, "{a:1,"+s+":1}", 5, api.ErrForm)
	}
	check(t, "{true:true.true,len:len([])}", rec("len true", of(api.ELen, list()), field(truth(1), "true")))
}

// P8.1: a record's names may stand in any order, and are put into the order of their bytes.
func TestNamesInAnyOrder(t *testing.T) {
	sorted := []string{"a", "a0", "a_", "aa", "true"}
	var choose func(order, left []string)
	choose = func(order, left []string) {
		if len(left) == 0 {
			checkOrder(t, order, sorted)
		}
		for i, name := range left {
			choose(append(order[:len(order):len(order)], name), slices.Delete(slices.Clone(left), i, i+1))
		}
	}
	choose(nil, sorted)
	check(t, "{b:{d:1,c:2},a:3}", rec("a b", num(3), rec("c d", num(2), num(1))))
}

func checkOrder(t *testing.T, order, sorted []string) {
	t.Helper()
	var pairs []string
	for _, name := range order {
		pairs = append(pairs, fmt.Sprintf("%s:%d", name, slices.Index(sorted, name)))
	}
	want := rec(strings.Join(sorted, " "), num(0), num(1), num(2), num(3), num(4))
	check(t, "{"+strings.Join(pairs, ",")+"}", want)
}

// P8.1: of two names alike the second one may not stand there, whatever comes behind it.
func TestNamesAlike(t *testing.T) {
	for text, at := range map[string]int{
		"{a:1,a:2}": 5, "{a:1,b:2,a:3}": 9, "{a:1,b:2,b:3}": 9, "{b:1,a:2, b:3}": 10, "{c:1,b:1,a:1,c:1,b:1}": 13, "{a:1,a": 5, "{a:1,a}": 5, "{a:1,a:": 5, "{a:1,a +": 5, "{true:1,true:2}": 8, "{a:1,a:2} )": 5, "[{a:1}, {b:1, b:1}]": 14,
		"{a:{b:1,b:1},a:1}": 8, "{a:{b:1},a:{c:1,c:1}}": 9,
	} {
		checkError(t, text, at, api.ErrForm)
	}
	check(t, "{a:{a:1},b:{a:1}}", rec("a b", rec("a", num(1)), rec("a", num(1))))
	var all []string
	for i := range 100 {
		all = append(all, fmt.Sprintf("n%d:%d", i, i))
	}
	long := "{" + strings.Join(all, ",") + ","
	checkText(t, strings.TrimSuffix(long, ",")+"}")
	for i := range 100 {
		checkError(t, long+fmt.Sprintf("n%d:%d}", i, i), len(long), api.ErrForm)
	}
}

// P8.1: texts of 2000 bytes, and longer ones.
func TestTextLength(t *testing.T) {
	for _, s := range []string{"a", "1+2*x", `"s"`, "{b:1,a:2}"} {
		x, _, _ := seek(s)
		check(t, s+rep(" ", 2000-len(s)), x)
		check(t, rep("\n", 2000-len(s))+s, x)
		for _, n := range []int{2001, 2002, 5000, 1 << 20} {
			checkError(t, s+rep(" ", n-len(s)), 0, api.ErrRange)
			checkError(t, rep(" ", n-len(s))+s, 0, api.ErrRange)
		}
	}
	checkError(t, rep(" ", 2000), 2000, api.ErrForm)
	checkError(t, rep(" ", 2001), 0, api.ErrRange)
	checkError(t, rep(" ", 1999)+"&", 1999, api.ErrForm)
	checkError(t, rep(" ", 2000)+"&", 0, api.ErrRange)
	checkError(t, rep("(", 2001), 0, api.ErrRange)
	checkError(t, rep(" ", 1998)+"1+", 2000, api.ErrForm)
	checkError(t, "", 0, api.ErrForm)
}

// P8.1: each error that lex.All has, with its place, ahead of all that the parser would tell.
func TestTokenErrors(t *testing.T) {
	for s, e := range map[string]api.Errno{
		"&": api.ErrForm, "=": api.ErrForm, "|": api.ErrForm, "A": api.ErrForm, "_": api.ErrForm, "\x00": api.ErrForm, "é": api.ErrForm, ">": api.ErrForm, "12p": api.ErrForm, "1p-": api.ErrForm, "1p00000": api.ErrForm, `"\n"`: api.ErrForm,
		`"`: api.ErrTorn, `"a\"`: api.ErrTorn,
		"9223372036854775808": api.ErrRange, "00000000000000000000": api.ErrRange, "1p1024": api.ErrRange, "9007199254740993p0": api.ErrRange, rep("a", 31): api.ErrRange, `"` + rep("x", 201) + `"`: api.ErrRange,
	} {
		for _, ahead := range []string{"", " ", "1+", "1 ", ") ", "1<2<3 ", "{a:1,a:1} ", "a.nan ", rep("(", 60), rep("-", 200), "[" + rep("1,", 300), "a?"} {
			checkError(t, ahead+s, len(ahead), e)
			checkError(t, ahead+s+" )( &", len(ahead), e)
		}
	}
	checkError(t, "& \"", 0, api.ErrForm)
	checkError(t, "a != b", 3, api.ErrForm)
}

// P8.1: as many parts, and as many within one another, as there may be, and more.
func TestSizes(t *testing.T) {
	for _, s := range []struct {
		text         string
		parts, depth int
	}{
		{"[" + rep("1,", 198) + "1]", 200, 2}, {"[" + rep("1,", 199) + "1]", 201, 2}, {"[" + rep("1,", 900) + "1]", 902, 2}, {"[" + rep("[],", 198) + "[]]", 200, 2}, {"[" + rep("-1,", 99) + "1]", 200, 3}, {"[" + rep("-1,", 99) + "-1]", 201, 3},
		{"a" + rep("+a", 11), 23, 12}, {"a" + rep("+a", 12), 25, 13}, {"a" + rep("||a", 11), 23, 12}, {"a" + rep("||a", 12), 25, 13}, {"a" + rep("&&a", 12), 25, 13}, {"a" + rep("*a", 12), 25, 13},
		{rep("-", 11) + "a", 12, 12}, {rep("-", 12) + "a", 13, 13}, {rep("!", 11) + "a", 12, 12}, {rep("!", 12) + "a", 13, 13},
		{"a" + rep(".b", 11), 12, 12}, {"a" + rep(".b", 12), 13, 13}, {"a" + rep("[b]", 11), 23, 12}, {"a" + rep("[b]", 12), 25, 13}, {rep("a[", 11) + "a" + rep("]", 11), 23, 12}, {rep("a[", 12) + "a" + rep("]", 12), 25, 13},
		{rep("[", 12) + rep("]", 12), 12, 12}, {rep("[", 13) + rep("]", 13), 13, 13}, {rep("{a:", 11) + "{}" + rep("}", 11), 12, 12}, {rep("{a:", 12) + "{}" + rep("}", 12), 13, 13},
		{rep("len(", 11) + "a" + rep(")", 11), 12, 12}, {rep("len(", 12) + "a" + rep(")", 12), 13, 13}, {rep("a?b:", 11) + "c", 34, 12}, {rep("a?b:", 12) + "c", 37, 13}, {rep("a?", 11) + "b" + rep(":c", 11), 34, 12}, {rep("a?", 12) + "b" + rep(":c", 12), 37, 13},
	} {
		x, at, e := Parse(s.text)
		if s.parts > 200 || s.depth > 12 {
			checkError(t, s.text, 0, api.ErrDeep)
		} else if parts, depth := size(x); at != 0 || e != api.OK || parts != s.parts || depth != s.depth {
			t.Errorf("%.60q: %d parts, %d within one another, at %d, error %d", s.text, parts, depth, at, e)
		}
		checkText(t, s.text)
		checkError(t, s.text+" )", len(s.text)+1, api.ErrForm) // its size is told but of a whole one
		checkError(t, s.text+" +", len(s.text)+2, api.ErrForm)
		checkError(t, "("+s.text, len(s.text)+1, api.ErrForm)
	}
}

// P8.1: as many of the grammar's expr and unary within one another as there may be, and one more. Each shape is told by what it lays around something, and how many of them that is; what is laid around all is wrong at its end, so that it is told apart from what has but too many parts within one another.
func TestWithin(t *testing.T) {
	shapes := []struct {
		ahead, behind string
		more          int
		ends          bool // the sign ahead of it ends within it
	}{
		{"(", ")", 2, false}, {"[", "]", 2, false}, {"a[", "]", 2, false}, {"{a:", "}", 2, false}, {"len(", ")", 2, false}, {"str(", ")", 2, false}, {"[1,", "]", 2, false}, {"{b:1,a:", "}", 2, false}, {"-", "", 1, false}, {"!", "", 1, false}, {"-(", ")", 3, false}, {"!a.b[", "]", 3, false}, {"(a?b:", ")", 3, false}, {"[a?", ":b]", 3, false},
		{"1+(", ")", 2, true}, {"a<(", ")", 2, true}, {"a?", ":b", 1, true}, {"a?b:", "", 1, true}, {"a?(", "):b", 3, true}, {"a||b?a+c:", "", 1, true},
	}
	for _, s := range shapes {
		for around := range 40 {
			if s.ends && around%2 == 1 {
				continue
			}
			n := (98 - around) / s.more
			ahead := rep("(", around/2) + rep("-", around%2)
			for _, n := range []int{n - 1, n, n + 1, n + 2} {
				text := ahead + rep(s.ahead, n) + "a" + rep(s.behind, n) + rep(")", around/2)
				if deep := 2 + around + n*s.more; deep > 100 {
					checkError(t, text, 0, api.ErrDeep)
					checkError(t, text+" ]", 0, api.ErrDeep)
					checkError(t, ahead+rep(s.ahead, n), 0, api.ErrDeep)
				} else {
					checkError(t, text+" ]", len(text)+1, api.ErrForm)
					checkText(t, text)
				}
			}
		}
	}
	check(t, rep("(", 49)+"a"+rep(")", 49), vari("a"))
	checkError(t, rep("(", 50)+"a"+rep(")", 50), 0, api.ErrDeep)
	checkError(t, rep("(", 49), 49, api.ErrForm)
	checkError(t, rep("(", 50), 0, api.ErrDeep)
	checkError(t, rep("(", 2000), 0, api.ErrDeep)
	checkError(t, rep("-", 2000), 0, api.ErrDeep)
	checkError(t, rep("-", 98), 98, api.ErrForm)
	checkError(t, rep("-", 99), 0, api.ErrDeep)
	checkError(t, ") "+rep("(", 60), 0, api.ErrForm)
	checkError(t, "(1 2 "+rep("(", 60), 3, api.ErrForm)
	checkError(t, rep("[", 50)+rep("]", 50)+")", 100, api.ErrForm) // no expr is in the last one
	checkError(t, rep("{a:", 49)+"{}"+rep("}", 49)+")", 3*49+2+49, api.ErrForm)
	checkError(t, rep("{a:", 50), 0, api.ErrDeep)
}

// P8.1: those that stand beside one another don't count as within.
func TestBeside(t *testing.T) {
	deep := rep("(", 48) + "a" + rep(")", 48)
	x := vari("a")
	check(t, "["+deep+","+deep+"+"+deep+","+deep+"]", list(x, of(api.EAdd, x, x), x))
	check(t, deep+"."+"a["+deep+"]["+deep+"]?"+rep("-", 9)+"a:"+deep, of(api.EIf, index(index(field(x, "a"), x), x), minus(9, x), x))
	check(t, "{a:"+deep+",b:-"+rep("(", 47)+"a"+rep(")", 47)+",c:"+deep+"}", rec("a b c", x, of(api.ENeg, x), x))
	check(t, "["+rep(rep("-", 9)+"a,", 18)+"a]", list(append(slices.Repeat([]api.Expr{minus(9, x)}, 18), x)...))
	checkText(t, "["+rep("a?b:c,", 40)+"!a]")
}

func minus(n int, x api.Expr) api.Expr {
	for range n {
		x = of(api.ENeg, x)
	}
	return x
}

// P8.1: every short row of tokens, held against what is read by hand.
func TestShortRows(t *testing.T) {
	checkRows(t, tokens, "", 3)
	checkRows(t, strings.Fields("a len - * < ? : ( ) [ ] { } , ."), "", 4)
	checkRows(t, strings.Fields("a + * < && - !"), "", 6)
	checkRows(t, strings.Fields("a ? : || ( )"), "", 6)
	checkRows(t, strings.Fields("a b { } : ,"), "", 6)
	checkRows(t, strings.Fields("a [ ] , . -"), "", 6)
	checkRows(t, strings.Fields("a b : , }"), "{ a :", 6)
	checkRows(t, strings.Fields("str ( ) a ."), "", 6)
}

func checkRows(t *testing.T, tokens []string, ahead string, most int) {
	t.Helper()
	checkText(t, ahead)
	if most == 0 {
		return
	}
	for _, token := range tokens {
		checkRows(t, tokens, ahead+" "+token, most-1)
	}
}

// anyText answers a text of the grammar, of any size.
func anyText(r *rand.Rand, depth int) string {
	sub := func() string { return anyText(r, depth-1) }
	if depth <= 0 || r.Intn(8) == 0 {
		return []string{"1", "0", "a", "b", "true", "nan", "3p-1", `"s"`, "[]", "{}", "x1"}[r.Intn(11)]
	}
	switch r.Intn(14) {
	case 0:
		return sub() + "?" + sub() + ":" + sub()
	case 1:
		return "(" + sub() + ")"
	case 2:
		return "[" + sub() + "," + sub() + "]"
	case 3:
		return "{b:" + sub() + ",a:" + sub() + ",len:" + sub() + "}"
	case 4:
		return words[2+r.Intn(4)] + "(" + sub() + ")"
	case 5:
		return sub() + "." + append(words, "a", "b")[r.Intn(8)]
	case 6:
		return sub() + "[" + sub() + "]"
	case 7:
		return "-" + sub()
	case 8:
		return "!" + sub()
	}
	return sub() + infix[r.Intn(len(infix))] + sub()
}

// P8.1: texts of the grammar, and those that are nearly ones: with a token more, less, or another one.
func TestAnyTexts(t *testing.T) {
	r := rand.New(rand.NewSource(8))
	for range 8000 {
		text := anyText(r, r.Intn(7))
		if len(text) > 2000 {
			continue
		}
		checkText(t, text)
		l, _, _ := lex.All(text)
		at := l[r.Intn(len(l))]
		for _, instead := range []string{"", " " + tokens[r.Intn(len(tokens))] + " ", text[at.At:at.Next] + " " + tokens[r.Intn(len(tokens))] + " "} {
			checkText(t, text[:at.At]+instead+text[at.Next:])
		}
		checkText(t, text[:at.At])
		checkText(t, text[:r.Intn(len(text))])
	}
}

// Rule 5: what is answered is new memory, in which no two lists share any.
func TestReadIsNew(t *testing.T) {
	text := `[{bcd:abc.efg, abc:"xyz"[1]}, len(abc), a+b*-c, true ? {} : [[], [1], [1,2,3]], {z:1,y:2,x:3,w:4,v:5}]`
	x, _, e := Parse(text)
	if e != api.OK {
		t.Fatal(e)
	}
	checkApart(t, x, text)
	check(t, text, x)
	y, _, _ := Parse(text)
	spoil(x)
	check(t, text, y)
}

// spoil writes on all lists, their spare room too.
func spoil(x api.Expr) {
	for _, kid := range x.Kids {
		spoil(kid)
	}
	for i := range x.Kids[:cap(x.Kids)] {
		x.Kids[:cap(x.Kids)][i] = vari("spoiled")
	}
	for i := range x.Names[:cap(x.Names)] {
		x.Names[:cap(x.Names)][i] = "spoiled"
	}
}

// checkApart wants no list to share memory with another one, and no string any with s.
func checkApart(t *testing.T, x api.Expr, s string) {
	t.Helper()
	seen := map[*api.Expr]bool{}
	from, to := uintptr(unsafe.Pointer(unsafe.StringData(s))), uintptr(len(s))
	var look func(x api.Expr)
	look = func(x api.Expr) {
		for _, own := range append([]string{x.S, x.V.S}, x.Names...) {
			if at := uintptr(unsafe.Pointer(unsafe.StringData(own))); own != "" && at >= from && at < from+to {
				t.Errorf("%q is kept of %q", own, s)
			}
		}
		for i := range x.Kids[:cap(x.Kids)] {
			place := &x.Kids[:cap(x.Kids)][i]
			if seen[place] {
				t.Errorf("%s shares its Kids", show(x))
			}
			seen[place] = true
		}
		for _, kid := range x.Kids {
			look(kid)
		}
	}
	look(x)
}

// Rule 7: what was read before doesn't count.
func TestAgain(t *testing.T) {
	texts := []string{"1+2*x", "(", "a.b[0] ? -1 : !c", rep("(", 60), "{b:1,a:2}", "1 +", "{a:1,a:2}", rep("-", 20) + "1", "&", rep("(", 49) + "a" + rep(")", 49)}
	for _, first := range texts {
		for _, second := range texts {
			Parse(first)
			checkText(t, second)
		}
	}
}

// Rule 1: any bytes are read to an end.
func FuzzParse(f *testing.F) {
	for _, s := range []string{"", "1+2*x", "a.b[0] ? -1 : !c", "{b:1,a:2}", "1 +", `len("a\"")[1p-1]`, rep("(", 50), "a<b==c", "{a:1,a:1}"} {
		f.Add(s)
	}
	f.Fuzz(func(t *testing.T, s string) { checkText(t, s) })
}
