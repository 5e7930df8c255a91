package eval

import (
	"fmt"
	"math"
	"math/big"
	"slices"
	"strings"
	"testing"

	"bascule/api"
	"bascule/float"
	"bascule/parse"
	"bascule/value"
)

const (
	theNaN = 0x7FF8000000000000
	least  = math.MinInt64
	most   = math.MaxInt64
)

func rep(s string, n int) string { return strings.Repeat(s, n) }

func num(n int64) api.Value   { return api.Value{Kind: api.VInt, N: n} }
func flo(f float64) api.Value { return api.Value{Kind: api.VFloat, F: f} }
func str(s string) api.Value  { return api.Value{Kind: api.VStr, S: s} }
func list(items ...api.Value) api.Value {
	return api.Value{Kind: api.VList, Items: items}
}

func yes(holds bool) api.Value {
	if holds {
		return api.Value{Kind: api.VBool, N: 1}
	}
	return api.Value{Kind: api.VBool}
}

// rec is told its names with blanks between.
func rec(names string, items ...api.Value) api.Value {
	return api.Value{Kind: api.VRec, Names: strings.Fields(names), Items: items}
}

func bits(b uint64) float64 { return math.Float64frombits(b) }

var minus0 = math.Copysign(0, -1)

// show tells all fields of any value, floats by their bits, nil and an empty list alike.
func show(v api.Value) string {
	s := fmt.Sprintf("%d %d %x %q %d", v.Kind, v.N, math.Float64bits(v.F), v.S, len(v.Names))
	for _, name := range v.Names {
		s += fmt.Sprintf(" %q", name)
	}
	for _, item := range v.Items {
		s += " (" + show(item) + ")"
	}
	return s
}

// expr reads an expression.
func expr(text string) api.Expr {
	x, at, e := parse.Parse(text)
	if e != api.OK {
		panic(fmt.Sprintf("no expression: %s: %d at %d", text, e, at))
	}
	return x
}

func vari(name string) api.Expr { return api.Expr{Kind: api.EVar, S: name} }

// named are variables with a value each, in the order in which they are told.
type named struct {
	vars   []api.Var
	values []api.Value
}

func (n *named) add(name string, v api.Value) {
	n.vars = append(n.vars, api.Var{Name: name})
	n.values = append(n.values, v)
}

func of(pairs ...any) named {
	var n named
	for i := 0; i < len(pairs); i += 2 {
		n.add(pairs[i].(string), pairs[i+1].(api.Value))
	}
	return n
}

func check(t *testing.T, x api.Expr, n named, want api.Value, e api.Errno) {
	t.Helper()
	if got, err := Eval(x, n.vars, n.values); show(got) != show(want) || err != e {
		s, _ := parse.Text(x)
		t.Fatalf("%.300s: %.300s, error %d, not %.300s, %d", s, show(got), err, show(want), e)
	}
}

// checkAll holds expressions' texts against the texts of values, or errors.
func checkAll(t *testing.T, n named, all map[string]any) {
	t.Helper()
	for text, want := range all {
		got, e := Eval(expr(text), n.vars, n.values)
		switch w := want.(type) {
		case api.Errno:
			if e != w || show(got) != show(api.Value{}) {
				t.Errorf("%s: %s, error %d, not %d", text, show(got), e, w)
			}
		case string:
			if s, wrong := value.Text(got); s != w || wrong != api.OK || e != api.OK {
				t.Errorf("%s: %s, error %d, not %s", text, show(got), e, w)
			}
		}
	}
}

// P10.1: expressions one by one, the examples among them.
func TestEvalPlain(t *testing.T) {
	n := of("x", num(7), "z", num(0), "m", num(-7), "f", flo(2.5), "t", yes(true), "u", yes(false), "s", str("abc"), "e", str(""), "l", list(num(1), num(2), num(3)), "n", list(), "r", rec("a b", num(1), list(str("q"))), "o", rec(""), "w", rec("len nan", num(5), num(6)))
	checkAll(t, n, map[string]any{
		"x/2*2+x%2 == x": "true", "1p0/0p0 == 1p0/0p0": "true", "0p0/0p0 == 0p0/0p0": "false", "9223372036854775807 + 1": api.ErrOverflow, "x == 7 || y": "true", "y || true": api.ErrNone, "[1,2][2]": api.ErrIndex,
		"1": "1", "0": "0", "9223372036854775807": "9223372036854775807", "3p1": "3p1", "0p0": "0p0", "nan": "nan", "inf": "inf", "true": "true", "false": "false", `""`: `""`, `"a\"\\"`: `"a\"\\"`,
		"x": "7", "f": "5p-1", "t": "true", "s": `"abc"`, "l": "[1,2,3]", "n": "[]", "r": `{a:1,b:["q"]}`, "o": "{}", "y": api.ErrNone,
		"-x": "-7", "-m": "7", "-z": "0", "-f": "-5p-1", "--x": "7", "-0p0": "-0p0", "--0p0": "0p0", "-inf": "-inf", "-nan": "nan", "-s": api.ErrType, "-t": api.ErrType, "-l": api.ErrType, "-r": api.ErrType,
		"!t": "false", "!u": "true", "!!t": "true", "!x": api.ErrType, "!s": api.ErrType, "!f": api.ErrType, "!l": api.ErrType, "!r": api.ErrType,
		"x+3": "10", "x+m": "0", "f+f": "5p0", "s+s": `"abcabc"`, "s+e": `"abc"`, "e+s": `"abc"`, "e+e": `""`, "s+\"d\"+s": `"abcdabc"`, "l+l": "[1,2,3,1,2,3]", "l+n": "[1,2,3]", "n+l": "[1,2,3]", "n+n": "[]", `l+["a"]`: `[1,2,3,"a"]`, "[1]+l": "[1,1,2,3]", "t+t": api.ErrType, "r+r": api.ErrType, "x+f": api.ErrType, "f+x": api.ErrType, "s+x": api.ErrType, "l+s": api.ErrType, "l+1": api.ErrType,
		"x-3": "4", "3-x": "-4", "f-1p0": "3p-1", "s-s": api.ErrType, "l-l": api.ErrType, "t-t": api.ErrType, "x-f": api.ErrType, "x*3": "21", "m*x": "-49", "f*f": "25p-2", "s*s": api.ErrType, "x*f": api.ErrType, "r*r": api.ErrType,
		"x/2": "3", "m/2": "-3", "x/-2": "-3", "m/-2": "3", "6/3": "2", "x/z": api.ErrDivide, "z/x": "0", "z/z": api.ErrDivide, "f/2p0": "5p-2", "f/0p0": "inf", "-f/0p0": "-inf", "f/-0p0": "-inf", "0p0/0p0": "nan", "s/s": api.ErrType, "x/f": api.ErrType, "x/s": api.ErrType,
		"x%2": "1", "m%2": "-1", "x%-2": "1", "m%-2": "-1", "6%3": "0", "x%z": api.ErrDivide, "z%z": api.ErrDivide, "z%x": "0", "f%f": api.ErrType, "f%0p0": api.ErrType, "s%s": api.ErrType, "l%l": api.ErrType, "t%t": api.ErrType, "x%f": api.ErrType,
		"x==7": "true", "x==8": "false", "f==5p-1": "true", "s==\"abc\"": "true", "s==e": "false", "t==t": "true", "t==u": "false", "l==[1,2,3]": "true", "l==[1,2]": "false", "l==[1,2,4]": "false", "n==[]": "true", `r=={b:["q"],a:1}`: "true", "r=={a:1}": "false", "o=={}": "true", `l==["a"]`: "false", "[1]==[1p0]": "false", "{a:1}=={a:true}": "false", "x==f": api.ErrType, "t==x": api.ErrType, "l==r": api.ErrType, "s==l": api.ErrType, "0p0==-0p0": "true", "[nan]==[nan]": "false", "[0p0]==[-0p0]": "true",
		"x<8": "true", "x<7": "false", "x<6": "false", "x<=8": "true", "x<=7": "true", "x<=6": "false", "f<3p0": "true", "f<f": "false", "f<=f": "true", "f<=1p0": "false", "nan<=nan": "false", "nan<1p0": "false", "-0p0<0p0": "false", "0p0<=-0p0": "true", "s<\"abd\"": "true", "s<s": "false", "s<=s": "true", "e<s": "true", "s<=e": "false", "u<t": api.ErrType, "t<=t": api.ErrType, "l<l": api.ErrType, "l<=l": api.ErrType, "r<r": api.ErrType, "r<=r": api.ErrType, "x<f": api.ErrType, "x<=f": api.ErrType, "s<x": api.ErrType,
		"t&&t": "true", "t&&u": "false", "u&&t": "false", "u&&u": "false", "t||t": "true", "t||u": "true", "u||t": "true", "u||u": "false", "u&&y": "false", "u&&x": "false", "t&&x": api.ErrType, "t&&y": api.ErrNone, "x&&t": api.ErrType, "x&&y": api.ErrType, "y&&x": api.ErrNone, "t||y": "true", "t||x": "true", "u||x": api.ErrType, "u||y": api.ErrNone, "x||y": api.ErrType, "z||t": api.ErrType, "z&&t": api.ErrType,
		"t?x:y": "7", "u?y:x": "7", "t?y:x": api.ErrNone, "u?x:y": api.ErrNone, "x?y:y": api.ErrType, "y?x:x": api.ErrNone, "1?x:x": api.ErrType, "t?s:x": `"abc"`, "u?s:x": "7", "t?(u?1:2):3": "2",
		"[]": "[]", "[x]": "[7]", `[x,s,l,f]`: `[7,"abc",[1,2,3],5p-1]`, "[x,y]": api.ErrNone, "[1/z,y]": api.ErrDivide, "{}": "{}", "{b:x,a:s}": `{a:"abc",b:7}`, "{a:y}": api.ErrNone, "{len:1}": "{len:1}", "{a:{b:{}}}": "{a:{b:{}}}",
		"r.a": "1", "r.b": `["q"]`, "r.b[0]": `"q"`, "r.c": api.ErrField, "r.aa": api.ErrField, "o.a": api.ErrField, "x.a": api.ErrType, "l.a": api.ErrType, "s.a": api.ErrType, "w.len": "5", "{a:1}.a": "1", "{a:{b:4}}.a.b": "4", "{b:2,a:1,c:3}.c": "3",
		"l[0]": "1", "l[2]": "3", "l[3]": api.ErrIndex, "l[-1]": api.ErrIndex, "n[0]": api.ErrIndex, "l[9223372036854775807]": api.ErrIndex, "l[-9223372036854775807-1]": api.ErrIndex, "l[4294967296]": api.ErrIndex, "l[z]": "1", "l[f]": api.ErrType, "l[s]": api.ErrType, "l[t]": api.ErrType, "s[0]": api.ErrType, "r[0]": api.ErrType, "x[0]": api.ErrType, "[[1,2],[3]][1][0]": "3", `["a",1p0][1]`: "1p0",
		"len(l)": "3", "len(n)": "0", "len(s)": "3", "len(e)": "0", "len(x)": api.ErrType, "len(r)": api.ErrType, "len(o)": api.ErrType, "len(t)": api.ErrType, "len(f)": api.ErrType,
		"float(x)": "7p0", "float(m)": "-7p0", "float(z)": "0p0", "float(9223372036854775807)": "1p63", "float(9007199254740993)": "1p53", "float(f)": api.ErrType, "float(s)": api.ErrType, "float(t)": api.ErrType,
		"int(f)": "2", "int(-f)": "-2", "int(-0p0)": "0", "int(nan)": api.ErrRange, "int(inf)": api.ErrRange, "int(-inf)": api.ErrRange, "int(1p63)": api.ErrRange, "int(-1p63)": "-9223372036854775808", "int(-1p63-1p11)": api.ErrRange, "int(1p63-1p10)": "9223372036854774784", "int(x)": api.ErrType, "int(s)": api.ErrType, "int(t)": api.ErrType,
		"str(x)": `"7"`, "str(m)": `"-7"`, "str(z)": `"0"`, "str(f)": `"5p-1"`, "str(-0p0)": `"-0p0"`, "str(nan)": `"nan"`, "str(-inf)": `"-inf"`, "str(t)": `"true"`, "str(u)": `"false"`, "str(s)": `"abc"`, "str(e)": `""`, `str("\"\\")`: `"\"\\"`, "str(l)": api.ErrType, "str(n)": api.ErrType, "str(r)": api.ErrType, "str(o)": api.ErrType, `str("1")+str(1)`: `"11"`,
	})
}

// P10.1: whole numbers at both ends of 64 bits, held against exact ones.
func TestEvalInts(t *testing.T) {
	some := []int64{0, 1, -1, 2, -2, 3, -3, 7, -7, 10, 1 << 31, -1 << 31, 1<<31 - 1, 1 << 32, -1 << 32, 3037000499, -3037000499, 3037000500, -3037000500, 1 << 61, 1 << 62, -1 << 62, 1<<62 - 1, -1<<62 - 1, 1<<62 + 1, 3074457345618258602, 3074457345618258603, -3074457345618258603, -3074457345618258602, most / 2, most/2 + 1, most - 2, most - 1, most, least, least + 1, least + 2, least / 2, least/2 - 1}
	came := map[api.Errno]int{}
	for _, a := range some {
		checkInt(t, "-a", a, 0, new(big.Int).Neg(big.NewInt(a)))
		for _, b := range some {
			left, right := big.NewInt(a), big.NewInt(b)
			came[checkInt(t, "a+b", a, b, new(big.Int).Add(left, right))]++
			came[checkInt(t, "a-b", a, b, new(big.Int).Sub(left, right))]++
			came[checkInt(t, "a*b", a, b, new(big.Int).Mul(left, right))]++
			n := of("a", num(a), "b", num(b))
			check(t, expr("a<b"), n, yes(left.Cmp(right) < 0), api.OK)
			check(t, expr("a<=b"), n, yes(left.Cmp(right) <= 0), api.OK)
			check(t, expr("a==b"), n, yes(left.Cmp(right) == 0), api.OK)
			if b == 0 {
				check(t, expr("a/b"), n, api.Value{}, api.ErrDivide)
				check(t, expr("a%b"), n, api.Value{}, api.ErrDivide)
				continue
			}
			came[checkInt(t, "a/b", a, b, new(big.Int).Quo(left, right))]++
			came[checkInt(t, "a%b", a, b, new(big.Int).Rem(left, right))]++
		}
	}
	if came[api.OK] < 1000 || came[api.ErrOverflow] < 500 {
		t.Error("hardly any:", came)
	}
	n := of("a", num(least))
	checkAll(t, n, map[string]any{"a/-1": api.ErrOverflow, "a%-1": "0", "-a": api.ErrOverflow, "a*-1": api.ErrOverflow, "-1*a": api.ErrOverflow, "0-a": api.ErrOverflow, "a-1": api.ErrOverflow, "a+-1": api.ErrOverflow, "a/1": "-9223372036854775808", "a/a": "1", "a%a": "0", "a/2*2": "-9223372036854775808", "a-a": "0", "-1-a": "9223372036854775807", "-(a+1)": "9223372036854775807", "a+9223372036854775807": "-1", "a/-2": "4611686018427387904", "-(a/2)*2": api.ErrOverflow, "-9223372036854775807-1": "-9223372036854775808", "a<a+1": "true"})
}

// checkInt answers the error that an exact result asks for.
func checkInt(t *testing.T, text string, a, b int64, exact *big.Int) api.Errno {
	t.Helper()
	n := of("a", num(a), "b", num(b))
	if !exact.IsInt64() {
		check(t, expr(text), n, api.Value{}, api.ErrOverflow)
		return api.ErrOverflow
	}
	check(t, expr(text), n, num(exact.Int64()), api.OK)
	return api.OK
}

// someFloats are edges, with what is no number in several ways.
func someFloats() []float64 {
	return []float64{0, minus0, 1, -1, 2.5, -2.5, 1.0 / 3, bits(1), bits(1 | 1<<63), bits(1 << 52), bits(1<<52 - 1), math.MaxFloat64, -math.MaxFloat64, 1 << 53, 1<<53 - 1, 1 << 62, 1 << 63, -1 << 63, 1 << 64, 0x7FFFFFFFFFFFFC00, math.Inf(1), math.Inf(-1), bits(theNaN), bits(theNaN | 1<<63), bits(0x7FF0000000000001), bits(0xFFFFFFFFFFFFFFFF), bits(theNaN + 5)}
}

// canonical answers by the bits what a float is to be in an answer.
func canonical(f float64) float64 {
	if math.Float64bits(f)&^(1<<63) > 0x7FF<<52 {
		return bits(theNaN)
	}
	return f
}

// P10.1: floats by every operator and comparison.
func TestEvalFloats(t *testing.T) {
	for _, a := range someFloats() {
		n := of("a", flo(a))
		check(t, expr("a"), n, flo(canonical(a)), api.OK)
		check(t, expr("-a"), n, flo(canonical(bits(math.Float64bits(a)^1<<63))), api.OK)
		check(t, expr("str(a)"), n, str(float.Text(a)), api.OK)
		checkWhole(t, a)
		for _, b := range someFloats() {
			n := of("a", flo(a), "b", flo(b))
			number := a == a && b == b
			for text, want := range map[string]float64{"a+b": a + b, "a-b": a - b, "a*b": a * b, "a/b": a / b} {
				check(t, expr(text), n, flo(canonical(want)), api.OK)
				check(t, expr("["+text+"]"), n, list(flo(canonical(want))), api.OK)
			}
			check(t, expr("a%b"), n, api.Value{}, api.ErrType)
			check(t, expr("a==b"), n, yes(number && big.NewFloat(trim(a)).Cmp(big.NewFloat(trim(b))) == 0), api.OK)
			check(t, expr("a<b"), n, yes(number && big.NewFloat(trim(a)).Cmp(big.NewFloat(trim(b))) < 0), api.OK)
			check(t, expr("a<=b"), n, yes(number && big.NewFloat(trim(a)).Cmp(big.NewFloat(trim(b))) <= 0), api.OK)
			check(t, expr("[a]==[b]"), n, yes(number && a == b), api.OK)
			check(t, expr("{f:[a]}=={f:[b]}"), n, yes(number && a == b), api.OK)
		}
	}
}

// trim keeps what is no number from where the exact ones don't know it.
func trim(f float64) float64 {
	if f != f {
		return 0
	}
	return f
}

// checkWhole holds EInt against exact numbers.
func checkWhole(t *testing.T, f float64) {
	t.Helper()
	n := of("a", flo(f))
	if f == f && !math.IsInf(f, 0) {
		if whole, _ := big.NewFloat(f).Int(nil); whole.IsInt64() {
			check(t, expr("int(a)"), n, num(whole.Int64()), api.OK)
			return
		}
	}
	check(t, expr("int(a)"), n, api.Value{}, api.ErrRange)
}

// P10.1: what is no number has one and the same bits wherever it comes.
func TestEvalCanonical(t *testing.T) {
	for _, odd := range []uint64{theNaN | 1<<63, 0x7FF0000000000001, 0xFFF0000000000001, math.MaxUint64, theNaN + 1} {
		f, one := flo(bits(odd)), flo(bits(theNaN))
		n := of("f", f, "l", list(f, list(f), rec("a b", f, f)), "r", rec("a", list(f)), "t", yes(true))
		for text, want := range map[string]api.Value{"f": one, "l": list(one, list(one), rec("a b", one, one)), "r": rec("a", list(one)), "l[0]": one, "l[1]": list(one), "r.a": list(one), "r.a[0]": one, "[f]": list(one), "{a:f}": rec("a", one), "t?f:t": one, "l+[]": list(one, list(one), rec("a b", one, one)), "[f]+[f]": list(one, one), "-f": one, "f+1p0": one, "1p0-f": one, "f*0p0": one, "f/f": one, "[[[f]]]": list(list(list(one)))} {
			check(t, expr(text), n, want, api.OK)
		}
	}
}

// P10.1: strings go by bytes.
func TestEvalTexts(t *testing.T) {
	some := []string{"", "\x00", "a", "a\x00", "aa", "ab", "b", "Z", "z", "\x7f", "\x80", "\xff", "é", "é\xff", "e\u0301", "\U0001F600", "\uffff", "a b", `"`, `\`, rep("x", 100), rep("x", 99) + "y", rep("x", 101)}
	for _, a := range some {
		for _, b := range some {
			n := of("a", str(a), "b", str(b))
			first := slices.Compare([]byte(a), []byte(b))
			check(t, expr("a==b"), n, yes(first == 0), api.OK)
			check(t, expr("a<b"), n, yes(first < 0), api.OK)
			check(t, expr("a<=b"), n, yes(first <= 0), api.OK)
			check(t, expr("len(a)"), n, num(int64(len([]byte(a)))), api.OK)
			check(t, expr("str(a)"), n, str(a), api.OK)
			if len(a)+len(b) <= 200 {
				check(t, expr("a+b"), n, str(a+b), api.OK)
			} else {
				check(t, expr("a+b"), n, api.Value{}, api.ErrRange)
			}
		}
	}
}

// faults come to an error each, whatever the variables are.
var faults = map[string]api.Errno{"y": api.ErrNone, "{}.a": api.ErrField, "-true": api.ErrType, "1/0": api.ErrDivide, "5%0": api.ErrDivide, "9223372036854775807+1": api.ErrOverflow, "[][0]": api.ErrIndex, "int(nan)": api.ErrRange}

// P10.1: the first error is the expression's own, from the first Kid to the last one, each wholly, ahead of its Kind's row.
func TestEvalFirstError(t *testing.T) {
	n := of("x", num(1), "b", yes(true), "u", yes(false), "s", str("s"), "r", rec("a", num(1)), "big", str(rep("x", 200)))
	within := func(around string, texts ...string) api.Expr {
		return expr(strings.NewReplacer("@", "("+texts[0]+")", "#", "("+texts[len(texts)-1]+")").Replace(around))
	}
	for one, e := range faults {
		for _, around := range []string{"@", "-@", "!@", "len(@)", "float(@)", "int(@)", "str(@)", "(@).a", "(@)[b]", "s[@]", "[@]", "{a:@}", "@+b", "x+@", "b+@", "s+@", "@-s", "s-@", "s*@", "@*s", "@/x", "b/@", "@%s", "b%@", "@==x", "x==@", "@<x", "b<@", "b<=@", "@<=b", "@&&x", "b&&@", "@||x", "u||@", "@?x:s", "b?@:b", "u?b:@", "[x,s,@]", "[x,@,s]", "[@,s]", "{a:x,b:@}", "(-@).a", "len(@+x)"} {
			check(t, within(around, one), n, api.Value{}, e)
		}
		for _, around := range []string{"x&&@", "s||@", "x?@:1", "s?1:@", "r&&@", "-b+@", "b-x+@", "[-b,@]", "{a:!x,b:@}"} {
			check(t, within(around, one), n, api.Value{}, api.ErrType)
		}
		check(t, within("(big+s)==@", one), n, api.Value{}, api.ErrRange)
		check(t, within("[big+s,@]", one), n, api.Value{}, api.ErrRange)
		check(t, within("{b:@,a:big+s}", one), n, api.Value{}, api.ErrRange) // a record's Kids stand in the order of its Names
		check(t, within("[big+@]", one), n, api.Value{}, e)
		for two := range faults {
			for _, around := range []string{"@+#", "@-#", "@*#", "@/#", "@%#", "@==#", "@<#", "@<=#", "@&&#", "@||#", "@?#:x", "b?@:#", "u?#:@", "[x,@,#]", "[@,s,x,#]", "{a:@,b:#}", "{b:@,c:1,d:#}", "(@)[#]", "-(@)+#", "[[@]]+#", "(b?@:x)==#", "{a:[s,@],b:x}==#", "(@).a+(#).a", "{b:#,a:@}", "b&&@&&#", "u||@||#"} {
				check(t, within(around, one, two), n, api.Value{}, e)
			}
		}
	}
}

// P10.1: a Kid that isn't come to changes nothing, whatever it is.
func TestEvalLazy(t *testing.T) {
	n := of("t", yes(true), "u", yes(false), "s", str(rep("x", 150)), "one", num(1))
	for fault := range faults {
		for _, kid := range []string{fault, "s+s", "[" + fault + "]", "one", "s", "[]", "{}", "1p0"} {
			k := "(" + kid + ")"
			checkAll(t, n, map[string]any{"u&&" + k: "false", "t||" + k: "true", "t?one:" + k: "1", "u?" + k + ":one": "1", "u&&t&&" + k: "false", "t||u||" + k: "true", "!(u&&" + k + ")": "true", "[t||" + k + "]": "[true]", "u&&" + k + "||t": "true", "(t||" + k + ")&&u": "false", "t?(u&&" + k + "):" + k: "false", "u&&(" + k + "||t)": "false"})
		}
	}
	checkAll(t, n, map[string]any{"t&&one": api.ErrType, "u||one": api.ErrType, "t&&s": api.ErrType, "u||[]": api.ErrType, "t&&{}": api.ErrType, "u||1p0": api.ErrType, "t&&1p0": api.ErrType, "one&&t": api.ErrType, "one||t": api.ErrType, "one?1:1": api.ErrType, "s?1:1": api.ErrType, "[]?1:1": api.ErrType, "[t]?1:1": api.ErrType, "1p0?1:1": api.ErrType, "{}||t": api.ErrType})
}

// P10.1: variables by their Names and places.
func TestEvalVars(t *testing.T) {
	vars := []api.Var{{Name: "", Type: api.Type{Kind: 99}}, {Name: "a", Label: -3, Type: api.Type{Kind: api.TStr}}, {Name: "b", Init: num(44)}, {Name: "a"}, {Name: "A b"}, {Name: "c", Init: num(45)}, {Name: "true"}, {Name: "d"}}
	values := []api.Value{num(10), num(11), num(12), num(13), num(14), num(15), num(16), num(17)}
	whole := named{vars, values}
	checkAll(t, whole, map[string]any{"a": "11", "b": "12", "c": "15", "d": "17", "e": api.ErrNone, "aa": api.ErrNone, "true": "true", "[a,b,c,a]": "[11,12,15,11]"})
	for n := range len(values) {
		for text, at := range map[string]int{"a": 1, "b": 2, "c": 5, "d": 7} {
			want := any(api.ErrNone)
			if at < n {
				want = fmt.Sprint(10 + at)
			}
			checkAll(t, named{vars, values[:n]}, map[string]any{text: want, "1+" + text + "-1": want})
			checkAll(t, named{vars, values[:n:n]}, map[string]any{text: want})
		}
	}
	checkAll(t, named{vars[:3], values}, map[string]any{"a": "11", "b": "12", "c": api.ErrNone, "d": api.ErrNone})
	checkAll(t, named{vars[2:], values[2:]}, map[string]any{"a": "13", "b": "12"})
	checkAll(t, named{vars, nil}, map[string]any{"a": api.ErrNone, "1": "1"})
	checkAll(t, named{nil, values}, map[string]any{"a": api.ErrNone, "1": "1"})
	checkAll(t, named{}, map[string]any{"a": api.ErrNone, "[]": "[]"})
	checkAll(t, named{[]api.Var{{Name: "x"}, {Name: "z"}, {Name: "x"}}, []api.Value{str("p")}}, map[string]any{"x": `"p"`, "z": api.ErrNone})
	checkAll(t, of("ab", num(1), "a", num(2), "abc", num(3), "b", num(4)), map[string]any{"a": "2", "ab": "1", "abc": "3", "b": "4", "bc": api.ErrNone, "c": api.ErrNone})
	var many named
	for i := range 3000 {
		many.add(fmt.Sprint("v", i), num(int64(i)))
	}
	checkAll(t, many, map[string]any{"v0": "0", "v2999": "2999", "v3000": api.ErrNone})
}

// flat is a list of so many parts.
func flat(parts int) api.Value { return list(slices.Repeat([]api.Value{num(1)}, parts-1)...) }

// nested is lists within one another, so many.
func nested(depth int) api.Value {
	v := list()
	for range depth - 1 {
		v = list(v)
	}
	return v
}

// P10.1: strings of 200 bytes and of 201.
func TestEvalLongTexts(t *testing.T) {
	for n := range 201 {
		a, b := of("a", str(rep("x", n)), "b", str(rep("y", 200-n))), of("a", str(rep("x", n)), "b", str(rep("y", 200-n)), "c", str("z"))
		check(t, expr("a+b"), a, str(rep("x", n)+rep("y", 200-n)), api.OK)
		check(t, expr(`a+b+""`), a, str(rep("x", n)+rep("y", 200-n)), api.OK)
		check(t, expr("len(a+b)"), a, num(200), api.OK)
		for _, text := range []string{"a+b+c", "a+(b+c)", "c+(a+b)", "len(a+b+c)", "[a+b+c]", "a+b+c==c", "{a:1,b:a+b+c}"} {
			check(t, expr(text), b, api.Value{}, api.ErrRange)
		}
	}
	long := of("a", str(rep("x", 200)))
	checkAll(t, long, map[string]any{"a+a": api.ErrRange, `a+"z"`: api.ErrRange, `"z"+a`: api.ErrRange, `len(a+"")`: "200", "len([a,a,a])": "3", "len(str(a))": "200"})
}

// P10.1: lists and records of 200 parts and of 201, with 12 values within one another and with 13.
func TestEvalGreat(t *testing.T) {
	for n := 190; n <= 200; n++ {
		v := of("x", flat(n))
		for _, c := range []struct {
			text string
			more int
			want api.Value
		}{{"x", 0, flat(n)}, {"[x]", 1, list(flat(n))}, {"[[x]]", 2, list(list(flat(n)))}, {"{a:x}", 1, rec("a", flat(n))}, {"{a:x,b:1}", 2, rec("a b", flat(n), num(1))}, {"{a:1,b:[],c:x}", 3, rec("a b c", num(1), list(), flat(n))}, {"[x][0]", 1, flat(n)}, {"x+[]", 0, flat(n)}, {"[]+x", 0, flat(n)}, {"x+[1]", 1, flat(n + 1)}, {"[1]+x", 1, flat(n + 1)}, {"[1]+x+[1]", 2, flat(n + 2)}, {"x+[[[1]]]", 3, list(append(flat(n).Items, list(list(num(1))))...)}, {"{a:x}.a", 1, flat(n)}, {"len([x])", 1, num(1)}, {"len(x+[1])", 1, num(int64(n))}, {"[x]==[x]", 1, yes(true)}, {"x==x", 0, yes(true)}, {"x+[1,1]==x+[1,1]", 2, yes(true)}, {"len(x)", 0, num(int64(n - 1))}, {"[x,1]", 2, list(flat(n), num(1))}, {"[1,x,1,1]", 4, list(num(1), flat(n), num(1), num(1))}} {
			if n+c.more <= 200 {
				check(t, expr(c.text), v, c.want, api.OK)
			} else {
				check(t, expr(c.text), v, api.Value{}, api.ErrRange)
			}
		}
		check(t, expr("[x,x]"), v, api.Value{}, api.ErrRange)
		check(t, expr("{a:x,b:x}"), v, api.Value{}, api.ErrRange)
		check(t, expr("x+x"), v, api.Value{}, api.ErrRange)
	}
	for n := 9; n <= 12; n++ {
		in := nested(n)
		v := of("x", in)
		for _, c := range []struct {
			text string
			more int
			want api.Value
		}{{"x", 0, in}, {"x+x", 0, list(append(in.Items, in.Items...)...)}, {"x==x", 0, yes(true)}, {"true?x:1", 0, in}, {"x[0]", 0, in.Items[0]}, {"[x]", 1, list(in)}, {"[1,x]", 1, list(num(1), in)}, {"{a:1,b:x}", 1, rec("a b", num(1), in)}, {"[[x]]", 2, list(list(in))}, {"{a:[x]}", 2, rec("a", list(in))}, {"[{a:x}]", 2, list(rec("a", in))}, {"[[x]][0]", 2, list(in)}, {"{a:{b:x}}.a.b", 2, in}, {"len([x])", 1, num(1)}, {"x+[x]", 1, list(append(in.Items, in)...)}, {"true||[x]==1", 0, yes(true)}} {
			if n+c.more <= 12 {
				check(t, expr(c.text), v, c.want, api.OK)
			} else {
				check(t, expr(c.text), v, api.Value{}, api.ErrRange)
			}
		}
	}
}

// P10.1: sizes that constants alone come to.
func TestEvalGreatAlone(t *testing.T) {
	within := func(n int, last string) api.Expr { return expr(rep("[", n) + last + rep("]", n)) }
	check(t, within(12, ""), named{}, nested(12), api.OK)
	check(t, within(11, "{}"), named{}, func() api.Value {
		v := rec("")
		for range 11 {
			v = list(v)
		}
		return v
	}(), api.OK)
	whole := api.Expr{Kind: api.EList, Kids: slices.Repeat([]api.Expr{expr("1")}, 199)}
	check(t, whole, named{}, flat(200), api.OK)
	record, want := api.Expr{Kind: api.ERec}, api.Value{Kind: api.VRec}
	for i := range 199 {
		name := fmt.Sprintf("f%03d", i)
		record.Names, record.Kids = append(record.Names, name), append(record.Kids, expr("1"))
		want.Names, want.Items = append(want.Names, name), append(want.Items, num(1))
	}
	check(t, record, named{}, want, api.OK)
	record.Kids[150] = vari("x")
	check(t, record, of("x", list()), func() api.Value {
		v := want
		v.Items = slices.Clone(v.Items)
		v.Items[150] = list()
		return v
	}(), api.OK)
	check(t, record, of("x", list(num(1))), api.Value{}, api.ErrRange)
	check(t, api.Expr{Kind: api.EList, Kids: slices.Repeat([]api.Expr{vari("x")}, 199)}, of("x", flat(200)), api.Value{}, api.ErrRange)
}

// wrongExprs are expressions that aren't right, each for one cause.
func wrongExprs() []api.Expr {
	x := expr("x")
	endless := api.Expr{Kind: api.EList, Kids: make([]api.Expr, 1)}
	endless.Kids[0] = endless
	deep := x
	for range 12 {
		deep = api.Expr{Kind: api.ENot, Kids: []api.Expr{deep}}
	}
	return []api.Expr{{}, {Kind: 24}, {Kind: -1}, {Kind: api.EVar}, {Kind: api.EVar, S: "true"}, {Kind: api.EVar, S: "X"}, {Kind: api.EVar, S: "x", Kids: []api.Expr{x}}, {Kind: api.EVar, S: "x", V: num(0)}, {Kind: api.ENeg}, {Kind: api.ENeg, Kids: []api.Expr{x, x}}, {Kind: api.EAdd, Kids: []api.Expr{x}}, {Kind: api.EAdd, Kids: []api.Expr{x, x, x}}, {Kind: api.EAnd, Kids: []api.Expr{expr("false")}}, {Kind: api.EOr, Kids: []api.Expr{expr("true")}}, {Kind: api.EIf, Kids: []api.Expr{x, x}}, {Kind: api.EIf}, {Kind: api.EIndex, Kids: []api.Expr{x}}, {Kind: api.EConst}, {Kind: api.EConst, V: list()}, {Kind: api.EConst, V: num(-1)}, {Kind: api.EConst, V: flo(-1)}, {Kind: api.EConst, V: flo(bits(theNaN + 1))}, {Kind: api.EConst, V: str(rep("x", 201))}, {Kind: api.EConst, V: api.Value{Kind: api.VBool, N: 2}}, {Kind: api.ERec, Names: []string{"a"}}, {Kind: api.ERec, Names: []string{"b", "a"}, Kids: []api.Expr{x, x}}, {Kind: api.EField, S: "nan", Kids: []api.Expr{x}}, {Kind: api.EField, S: "a"}, {Kind: api.EList, Kids: slices.Repeat([]api.Expr{x}, 200)}, {Kind: api.EList, Names: []string{"a"}, Kids: []api.Expr{x}}, endless, deep}
}

// wrongValues are values that aren't right, each for one cause.
func wrongValues() []api.Value {
	endless := list(num(1))
	endless.Items[0] = endless
	return []api.Value{{}, {Kind: -1}, {Kind: 7}, {Kind: math.MaxInt}, {Kind: api.VBool, N: 2}, {Kind: api.VBool, N: -1}, {Kind: api.VInt, F: 1}, {Kind: api.VInt, F: minus0}, {Kind: api.VInt, S: "a"}, {Kind: api.VFloat, N: 1}, str(rep("x", 201)), {Kind: api.VStr, Items: []api.Value{num(1)}}, list(api.Value{}), {Kind: api.VList, Names: []string{"a"}, Items: []api.Value{num(1)}}, rec("a"), rec("", num(1)), rec("b a", num(1), num(1)), rec("a a", num(1), num(1)), rec("A", num(1)), rec("a", list(api.Value{Kind: 9})), flat(201), nested(13), nested(1 << 16), endless}
}

// P10.1: ErrArg ahead of all else.
func TestEvalArguments(t *testing.T) {
	n := of("x", num(1))
	for i, x := range wrongExprs() {
		for _, x := range []api.Expr{x, {Kind: api.EAdd, Kids: []api.Expr{expr("y"), x}}, {Kind: api.ENot, Kids: []api.Expr{x}}, {Kind: api.EAnd, Kids: []api.Expr{expr("false"), x}}, {Kind: api.EOr, Kids: []api.Expr{expr("true"), x}}, {Kind: api.EIf, Kids: []api.Expr{expr("true"), expr("1"), x}}, {Kind: api.EList, Kids: []api.Expr{expr("1/0"), x}}} {
			for _, n := range []named{n, {}, of("x", api.Value{})} {
				if v, e := Eval(x, n.vars, n.values); e != api.ErrArg || show(v) != show(api.Value{}) {
					t.Errorf("the wrong expression %d: %s, error %d", i, show(v), e)
				}
			}
			if v, is := Const(x); is || show(v) != show(api.Value{}) {
				t.Errorf("the wrong expression %d is constant: %s", i, show(v))
			}
		}
	}
	for i, wrong := range wrongValues() {
		for at := range 4 {
			n := of("x", num(1), "z", str("a"))
			n.values = append(n.values, num(2), num(3)) // that no variable has
			n.values[at] = wrong
			for _, text := range []string{"1", "x", "z", "y", "x+z", "1/0", "true||x", "-true"} {
				for _, vars := range [][]api.Var{n.vars, nil} {
					if v, e := Eval(expr(text), vars, n.values); e != api.ErrArg || show(v) != show(api.Value{}) {
						t.Errorf("%s with the wrong value %d at %d: error %d", text, i, at, e)
					}
				}
			}
			if v, e := Eval(api.Expr{}, n.vars, n.values); e != api.ErrArg || show(v) != show(api.Value{}) {
				t.Error("both wrong: error", e)
			}
		}
	}
	endless := api.Type{Kind: api.TList, Items: make([]api.Type, 1)}
	endless.Items[0] = endless
	odd := []api.Var{{Name: "x", Type: endless, Label: -1, Init: api.Value{Kind: 99}}, {Name: "\xff", Type: api.Type{Kind: 88}}}
	check(t, expr("x+1"), named{odd, []api.Value{num(4), num(5)}}, num(5), api.OK) // a variable is its Name alone
}

// P10.1: what is constant, and what isn't.
func TestConst(t *testing.T) {
	for text, want := range map[string]string{"1": "1", "-1": "-1", "1+2*3": "7", "[1,2][1]": "2", "{a:1p0/0p0}": "{a:inf}", "nan": "nan", "-0p0": "-0p0", "[]": "[]", `"a"+"b"`: `"ab"`, "true||1/0==1": "true", "false&&[][0]": "false", "true?1:1/0": "1", "len([1,2])": "2", "-9223372036854775807-1": "-9223372036854775808", "str(1p1)": `"1p1"`, "{b:[],a:{}}": "{a:{},b:[]}"} {
		v, is := Const(expr(text))
		if s, e := value.Text(v); !is || s != want || e != api.OK {
			t.Errorf("%s: %s, %v, not %s", text, show(v), is, want)
		}
	}
	for _, text := range []string{"x", "-x", "x+1", "1+x", "[1,[x]]", "{a:x}", "{a:1,b:x}", "true||x", "false&&x", "true?1:x", "false?x:1", "x?1:1", "true||(1==x)", "true?1:[[{a:x}]]", "true||x.a", "true||[1][x]==1", "len([x])", "true?1:len(x)", "1/0", "1/0==x", "[][0]", "{}.a", "-true", "int(nan)", "9223372036854775807+1", "!1", "1==1p0", "1?2:3", "true&&1", "[1,1/0]"} {
		if v, is := Const(expr(text)); is || show(v) != show(api.Value{}) {
			t.Errorf("%s: %s, %v", text, show(v), is)
		}
	}
	long := str(rep("x", 150))
	if v, is := Const(api.Expr{Kind: api.EAdd, Kids: []api.Expr{{Kind: api.EConst, V: long}, {Kind: api.EConst, V: long}}}); is || show(v) != show(api.Value{}) {
		t.Error("too long:", show(v), is)
	}
}

func ty(kind int) api.Type         { return api.Type{Kind: kind} }
func tlist(item api.Type) api.Type { return api.Type{Kind: api.TList, Items: []api.Type{item}} }
func deepType(n int, last int) api.Type {
	t := ty(last)
	for range n - 1 {
		t = tlist(t)
	}
	return t
}

func trec(names string, items ...api.Type) api.Type {
	return api.Type{Kind: api.TRec, Names: strings.Fields(names), Items: items}
}

// wideType is a record of so many parts.
func wideType(parts int) api.Type {
	t := api.Type{Kind: api.TRec}
	for i := range parts - 1 {
		t.Names, t.Items = append(t.Names, fmt.Sprintf("f%03d", i)), append(t.Items, ty(api.TFloat))
	}
	return t
}

// P10.1: the zero of each type, and of what is none.
func TestZero(t *testing.T) {
	none := api.Value{}
	for _, c := range []struct {
		of   api.Type
		want api.Value
	}{
		{ty(api.TBool), yes(false)}, {ty(api.TInt), num(0)}, {ty(api.TFloat), flo(0)}, {ty(api.TStr), str("")}, {ty(api.TNone), none}, {tlist(ty(api.TInt)), list()}, {tlist(ty(api.TNone)), list()}, {tlist(tlist(ty(api.TStr))), list()}, {tlist(trec("a", ty(api.TInt))), list()}, {deepType(12, api.TInt), list()},
		{trec(""), rec("")}, {trec("a", ty(api.TInt)), rec("a", num(0))}, {trec("a b c d e", ty(api.TBool), ty(api.TFloat), ty(api.TStr), tlist(ty(api.TInt)), trec("z", ty(api.TFloat))), rec("a b c d e", yes(false), flo(0), str(""), list(), rec("z", flo(0)))}, {trec("a b", ty(api.TInt), ty(api.TNone)), rec("a b", num(0), none)}, {trec("a", trec("b", trec(""))), rec("a", rec("b", rec("")))},
		{ty(0), none}, {ty(-1), none}, {ty(8), none}, {ty(math.MinInt), none}, {ty(math.MaxInt), none}, {ty(api.TList), none}, {api.Type{Kind: api.TList, Items: []api.Type{ty(api.TInt), ty(api.TInt)}}, none}, {api.Type{Kind: api.TList, Names: []string{"a"}, Items: []api.Type{ty(api.TInt)}}, none}, {tlist(ty(0)), none}, {tlist(ty(api.TList)), none}, {deepType(13, api.TInt), none}, {deepType(1<<16, api.TInt), none},
		{trec("a"), none}, {trec("a", trec("b")), none}, {trec("", ty(api.TInt)), none}, {trec("b a", ty(api.TInt), ty(api.TInt)), none}, {trec("a a", ty(api.TInt), ty(api.TInt)), none}, {trec("A", ty(api.TInt)), none}, {trec("a b", ty(api.TInt), ty(9)), none}, {trec("a", tlist(ty(0))), none}, {api.Type{Kind: api.TInt, Names: []string{"a"}}, none}, {api.Type{Kind: api.TInt, Items: []api.Type{ty(api.TInt)}}, none}, {api.Type{Kind: api.TNone, Items: []api.Type{ty(api.TInt)}}, none}, {wideType(201), none},
	} {
		if got := Zero(c.of); show(got) != show(c.want) {
			t.Errorf("%d %q: %s, not %s", c.of.Kind, c.of.Names, show(got), show(c.want))
		}
	}
	if v := Zero(wideType(200)); len(v.Items) != 199 || !value.Fits(v, wideType(200)) {
		t.Error("200 parts:", show(v))
	}
	endless := tlist(ty(api.TInt))
	endless.Items[0] = endless
	if v := Zero(endless); show(v) != show(none) {
		t.Error("endless:", show(v))
	}
}
