package codec

import (
	"encoding/hex"
	"fmt"
	"math"
	"math/big"
	"math/rand"
	"slices"
	"strings"
	"testing"
	"unsafe"

	"bascule/api"
	"bascule/value"
)

const theNaN = 0x7FF8000000000000

func truth(n int64) api.Value           { return api.Value{Kind: api.VBool, N: n} }
func num(n int64) api.Value             { return api.Value{Kind: api.VInt, N: n} }
func flo(f float64) api.Value           { return api.Value{Kind: api.VFloat, F: f} }
func floBits(b uint64) api.Value        { return flo(math.Float64frombits(b)) }
func str(s string) api.Value            { return api.Value{Kind: api.VStr, S: s} }
func list(items ...api.Value) api.Value { return api.Value{Kind: api.VList, Items: items} }

// rec takes its names with blanks between.
func rec(names string, items ...api.Value) api.Value {
	return api.Value{Kind: api.VRec, Names: strings.Fields(names), Items: items}
}

func typ(kind int) api.Type         { return api.Type{Kind: kind} }
func listOf(item api.Type) api.Type { return api.Type{Kind: api.TList, Items: []api.Type{item}} }
func recOf(names string, items ...api.Type) api.Type {
	return api.Type{Kind: api.TRec, Names: strings.Fields(names), Items: items}
}

// raw answers the bytes that hexadecimal digits say.
func raw(digits string) string {
	b, err := hex.DecodeString(strings.ReplaceAll(digits, " ", ""))
	if err != nil {
		panic(err)
	}
	return string(b)
}

func x(s string, n int) string { return strings.Repeat(s, n) }

// manyNames answers n names that rise.
func manyNames(n int) []string {
	names := make([]string, n)
	for i := range names {
		names[i] = fmt.Sprintf("n%03d", i)
	}
	return names
}

// sameValue holds floats bit by bit, NaN too; no list and an empty one are one.
func sameValue(a, b api.Value) bool {
	return a.Kind == b.Kind && a.N == b.N && math.Float64bits(a.F) == math.Float64bits(b.F) && a.S == b.S && slices.Equal(a.Names, b.Names) && slices.EqualFunc(a.Items, b.Items, sameValue)
}

func sameType(a, b api.Type) bool {
	return a.Kind == b.Kind && slices.Equal(a.Names, b.Names) && slices.EqualFunc(a.Items, b.Items, sameType)
}

func sameThing[T comparable](a, b T) bool { return a == b }

// A reading is what a reader of any kind answered, or is to answer.
type reading[T any] struct {
	got  T
	next int
	e    api.Errno
}

func readUint(s string, at int) reading[uint64] {
	n, next, e := ReadUint(s, at)
	return reading[uint64]{n, next, e}
}

func readInt(s string, at int) reading[int64] {
	n, next, e := ReadInt(s, at)
	return reading[int64]{n, next, e}
}

func readStr(most int) func(s string, at int) reading[string] {
	return func(s string, at int) reading[string] {
		t, next, e := ReadStr(s, at, most)
		return reading[string]{t, next, e}
	}
}

func readValue(s string, at int) reading[api.Value] {
	v, next, e := ReadValue(s, at)
	return reading[api.Value]{v, next, e}
}

func readType(s string, at int) reading[api.Type] {
	t, next, e := ReadType(s, at)
	return reading[api.Type]{t, next, e}
}

// check holds what is read of s alone, and of s with others ahead of it, against what it is to be; next is told as if s stood alone.
func check[T any](t *testing.T, s string, read func(string, int) reading[T], same func(a, b T) bool, want reading[T]) {
	t.Helper()
	for _, ahead := range []string{"", "\x80", "\x05\x01\x01\x01", x("\xff", 300)} {
		got, next := read(ahead+s, len(ahead)), want.next
		if want.e == api.OK {
			next += len(ahead)
		}
		if !same(got.got, want.got) || got.next != next || got.e != want.e {
			t.Fatalf("%x behind %d bytes: %#v, not %#v at %d with error %d", s, len(ahead), got, want.got, next, want.e)
		}
	}
}

// checkRead wants s to be read as a thing, whatever stands behind it.
func checkRead[T any](t *testing.T, s string, read func(string, int) reading[T], same func(a, b T) bool, want T) {
	t.Helper()
	for _, behind := range []string{"", "\x00", "\x01", "\x80", "\xff", s, x("\x05", 30)} {
		check(t, s+behind, read, same, reading[T]{want, len(s), api.OK})
	}
}

// checkError wants an error alone.
func checkError[T any](t *testing.T, s string, read func(string, int) reading[T], same func(a, b T) bool, want api.Errno) {
	t.Helper()
	check(t, s, read, same, reading[T]{e: want})
}

// checkForm wants ErrForm, whatever stands behind it.
func checkForm[T any](t *testing.T, s string, read func(string, int) reading[T], same func(a, b T) bool) {
	t.Helper()
	for _, behind := range []string{"", "\x00", "\x80", x("\x01", 300)} {
		checkError(t, s+behind, read, same, api.ErrForm)
	}
}

// checkTorn wants ErrTorn of the bytes up to each place within s.
func checkTorn[T any](t *testing.T, s string, read func(string, int) reading[T], same func(a, b T) bool) {
	t.Helper()
	for end := range len(s) {
		checkError(t, s[:end], read, same, api.ErrTorn)
	}
}

// checkBothWays wants bytes and a thing to be each other's, and nothing less to be it.
func checkBothWays[T any](t *testing.T, written, want string, read func(string, int) reading[T], same func(a, b T) bool, thing T) {
	t.Helper()
	if written != want {
		t.Fatalf("%#v is written as %x, not as %x", thing, written, want)
	}
	checkRead(t, want, read, same, thing)
	checkTorn(t, want, read, same)
}

func checkUint(t *testing.T, n uint64, want string) {
	t.Helper()
	checkBothWays(t, Uint(n), want, readUint, sameThing, n)
}

func checkInt(t *testing.T, n int64, want string) {
	t.Helper()
	checkBothWays(t, Int(n), want, readInt, sameThing, n)
}

func checkValue(t *testing.T, v api.Value, want string) {
	t.Helper()
	written, e := Value(v)
	if e != api.OK {
		t.Fatalf("%v isn't written: %d", v, e)
	}
	checkBothWays(t, written, want, readValue, sameValue, value.Canon(v))
}

func checkType(t *testing.T, ty api.Type, want string) {
	t.Helper()
	written, e := Type(ty)
	if e != api.OK {
		t.Fatalf("%v isn't written: %d", ty, e)
	}
	checkBothWays(t, written, want, readType, sameType, ty)
}

// spellBig answers a number's bytes by the document's words.
func spellBig(n *big.Int) string {
	group := big.NewInt(128)
	rest, low := new(big.Int).QuoRem(n, group, new(big.Int))
	if rest.Sign() == 0 {
		return string([]byte{byte(low.Int64())})
	}
	return string([]byte{128 + byte(low.Int64())}) + spellBig(rest)
}

func spellUint(n uint64) string { return spellBig(new(big.Int).SetUint64(n)) }

func spellInt(n int64) string {
	twice := new(big.Int).Mul(big.NewInt(2), big.NewInt(n))
	if n < 0 {
		twice.Sub(twice.Neg(twice), big.NewInt(1))
	}
	return spellBig(twice)
}

func spellStr(s string) string { return spellUint(uint64(len(s))) + s }

// spell answers any value's bytes by the document's words, right or not; of a kind that is none they are that alone.
func spell(v api.Value) string {
	s := string([]byte{byte(v.Kind)})
	switch v.Kind {
	case api.VBool:
		s += string([]byte{byte(v.N)})
	case api.VInt:
		s += spellInt(v.N)
	case api.VFloat:
		s += raw(fmt.Sprintf("%016X", math.Float64bits(v.F)))
	case api.VStr:
		s += spellStr(v.S)
	case api.VList, api.VRec:
		s += spellUint(uint64(len(v.Items)))
		for i, item := range v.Items {
			if v.Kind == api.VRec {
				s += spellStr(v.Names[i])
			}
			s += spell(item)
		}
	}
	return s
}

func spellType(t api.Type) string {
	s := string([]byte{byte(t.Kind)})
	switch t.Kind {
	case api.TList:
		s += spellType(t.Items[0])
	case api.TRec:
		s += spellUint(uint64(len(t.Items)))
		for i, item := range t.Items {
			s += spellStr(t.Names[i]) + spellType(item)
		}
	}
	return s
}

// P5.1, P5.2: numbers in plain bytes.
func TestUintBytes(t *testing.T) {
	for n, want := range map[uint64]string{
		0: "00", 1: "01", 2: "02", 127: "7F", 128: "80 01", 129: "81 01", 255: "FF 01", 256: "80 02", 300: "AC 02", 16383: "FF 7F", 16384: "80 80 01",
		1<<32 - 1: "FF FF FF FF 0F", 1 << 32: "80 80 80 80 10", 1<<56 - 1: "FF FF FF FF FF FF FF 7F", 1 << 56: "80 80 80 80 80 80 80 80 01",
		1<<63 - 1: "FF FF FF FF FF FF FF FF 7F", 1 << 63: "80 80 80 80 80 80 80 80 80 01", math.MaxUint64: "FF FF FF FF FF FF FF FF FF 01",
	} {
		checkUint(t, n, raw(want))
	}
}

// P5.1 to P5.3: numbers of one to ten bytes, against the document's words.
func TestUintSizes(t *testing.T) {
	for size := 1; size <= 10; size++ {
		least, greatest := uint64(1)<<(7*(size-1)), uint64(1)<<(7*size)-1 // beyond 64 bits it is all ones
		if size == 1 {
			least = 0
		}
		for _, n := range []uint64{least, least + 1, least + (greatest-least)/3, greatest - 1, greatest} {
			if len(Uint(n)) != size {
				t.Errorf("%d has %d bytes, not %d", n, len(Uint(n)), size)
			}
			checkUint(t, n, spellUint(n))
		}
	}
	r := rand.New(rand.NewSource(1))
	for range 2000 {
		n := r.Uint64() >> r.Intn(64)
		checkUint(t, n, spellUint(n))
	}
}

// P5.2: bytes that are no number.
func TestUintForm(t *testing.T) {
	for ahead := 1; ahead <= 9; ahead++ { // a last byte that is 0
		checkForm(t, x("\x80", ahead)+"\x00", readUint, sameThing)
		checkForm(t, x("\xff", ahead)+"\x00", readUint, sameThing)
		checkForm(t, x("\x80", ahead)+"\x00", readInt, sameThing)
	}
	for tenth := range 256 {
		for _, nine := range []string{x("\x80", 9), x("\xff", 9)} {
			s := nine + string([]byte{byte(tenth)})
			if tenth == 1 {
				want := uint64(1) << 63
				if nine[0] == 0xff {
					want = math.MaxUint64
				}
				checkRead(t, s, readUint, sameThing, want)
				continue
			}
			checkForm(t, s, readUint, sameThing)
			checkForm(t, s, readInt, sameThing)
		}
	}
	for n := range 10 {
		checkError(t, x("\x80", n), readUint, sameThing, api.ErrTorn)
		checkError(t, x("\xff", n), readUint, sameThing, api.ErrTorn)
	}
	for _, s := range []string{x("\x80", 10), x("\x80", 10) + "\x01", x("\x81", 10) + "\x00", x("\xff", 11), x("\x80", 1000) + "\x01", x("\x80", 9) + "\x81\x01", x("\x80", 9) + "\x82"} {
		checkForm(t, s, readUint, sameThing)
	}
}

func TestIntBytes(t *testing.T) {
	for n, want := range map[int64]string{
		0: "00", -1: "01", 1: "02", -2: "03", 2: "04", -3: "05", 63: "7E", -64: "7F", 64: "80 01", -65: "81 01", 150: "AC 02", 8191: "FE 7F", -8192: "FF 7F", 8192: "80 80 01",
		math.MaxInt64: "FE FF FF FF FF FF FF FF FF 01", math.MinInt64: "FF FF FF FF FF FF FF FF FF 01", 1 << 62: "80 80 80 80 80 80 80 80 80 01", -1<<62 - 1: "81 80 80 80 80 80 80 80 80 01",
		1<<62 - 1: "FE FF FF FF FF FF FF FF 7F", -1 << 62: "FF FF FF FF FF FF FF FF 7F",
	} {
		checkInt(t, n, raw(want))
	}
	for bit := range 64 {
		for _, n := range []int64{1 << bit, 1<<bit - 1, -1 << bit, -1<<bit - 1} {
			checkInt(t, n, spellInt(n))
		}
	}
	r := rand.New(rand.NewSource(2))
	for range 2000 {
		n := int64(r.Uint64()) >> r.Intn(64)
		checkInt(t, n, spellInt(n))
	}
}

func TestStrBytes(t *testing.T) {
	if Str("") != "\x00" || Str("ab") != "\x02ab" || Str(x("q", 300)) != "\xac\x02"+x("q", 300) {
		t.Error("plain ones")
	}
	all := make([]byte, 256)
	for i := range all {
		all[i] = byte(i)
	}
	for _, s := range []string{"", "a", "ab", "\x00", "\xff\xfe", "é", string(all), x("a", 127), x("a", 128), x("a", 200), x("a", 201), x("\x80", 16384)} {
		if Str(s) != spellStr(s) {
			t.Errorf("Str of %d bytes: %x", len(s), Str(s))
		}
		for _, most := range []int{len(s), len(s) + 1, math.MaxInt} {
			checkRead(t, Str(s), readStr(most), sameThing, s)
		}
	}
	checkTorn(t, Str(""), readStr(0), sameThing)
	checkTorn(t, Str(x("a", 200)), readStr(math.MaxInt), sameThing)
	checkTorn(t, Str(x("a", 200)), readStr(200), sameThing)
}

// P5.2: how long a string is said to be is told ahead of whether its bytes are there.
func TestStrMost(t *testing.T) {
	for _, c := range []struct {
		length uint64
		most   int
	}{{1, 0}, {31, 30}, {201, 200}, {202, 200}, {200, 199}, {1 << 31, math.MaxInt32}, {1 << 63, math.MaxInt}, {math.MaxUint64, math.MaxInt}, {math.MaxUint64, 0}} {
		checkForm(t, Uint(c.length), readStr(c.most), sameThing)
	}
	checkForm(t, Str(x("a", 201)), readStr(200), sameThing)
	checkRead(t, Str(x("a", 201)), readStr(201), sameThing, x("a", 201))
	for _, length := range []uint64{1, 200, 1 << 31, 1<<63 - 1} {
		checkError(t, Uint(length), readStr(int(length)), sameThing, api.ErrTorn)
		if length > 3 {
			checkError(t, Uint(length)+"abc", readStr(math.MaxInt), sameThing, api.ErrTorn)
		}
	}
	checkForm(t, "\x81\x00a", readStr(math.MaxInt), sameThing)
	checkForm(t, x("\x80", 9)+"\x02", readStr(math.MaxInt), sameThing)
	checkError(t, "\x80", readStr(0), sameThing, api.ErrTorn)
}

// P5.2: where most is below 0 any string is longer, the empty one too.
func TestStrMostBelowZero(t *testing.T) {
	for _, most := range []int{-1, -2, -200, math.MinInt32, math.MinInt64} {
		for _, length := range []int{0, 1, 2, 30, 127, 128, 200, 300} {
			checkForm(t, Str(x("a", length)), readStr(most), sameThing)
			checkForm(t, Uint(uint64(length)), readStr(most), sameThing)
		}
		for _, length := range []uint64{1 << 31, 1<<63 - 1, 1 << 63, uint64(most), math.MaxUint64} {
			checkForm(t, Uint(length), readStr(most), sameThing)
		}
		for _, torn := range []string{"", "\x80", x("\xff", 9)} { // the number ahead comes first
			checkError(t, torn, readStr(most), sameThing, api.ErrTorn)
		}
		for _, none := range []string{"\x80\x00", "\x81\x00a", x("\x80", 9) + "\x02"} {
			checkForm(t, none, readStr(most), sameThing)
		}
	}
}

// P5.1 to P5.3: values in plain bytes.
func TestValueBytes(t *testing.T) {
	for _, c := range []struct {
		v    api.Value
		want string
	}{
		{truth(0), "01 00"}, {truth(1), "01 01"}, {num(0), "02 00"}, {num(-3), "02 05"}, {num(150), "02 AC 02"}, {num(math.MinInt64), "02 FF FF FF FF FF FF FF FF FF 01"},
		{flo(0), "03 00 00 00 00 00 00 00 00"}, {flo(math.Copysign(0, -1)), "03 80 00 00 00 00 00 00 00"}, {flo(1.5), "03 3F F8 00 00 00 00 00 00"},
		{flo(math.Inf(1)), "03 7F F0 00 00 00 00 00 00"}, {flo(math.Inf(-1)), "03 FF F0 00 00 00 00 00 00"}, {floBits(theNaN), "03 7F F8 00 00 00 00 00 00"},
		{floBits(0x0123456789ABCDEF), "03 01 23 45 67 89 AB CD EF"}, {floBits(1), "03 00 00 00 00 00 00 00 01"}, {flo(-math.MaxFloat64), "03 FF EF FF FF FF FF FF FF"},
		{str(""), "04 00"}, {str("ab"), "04 02 61 62"}, {str("\x00\xff"), "04 02 00 FF"}, {list(), "05 00"}, {list(truth(1), list(), num(1)), "05 03 01 01 05 00 02 02"},
		{rec(""), "06 00"}, {rec("a", str("b")), "06 01 01 61 04 01 62"}, {rec("a b_1", num(1), rec("c", list())), "06 02 01 61 02 02 03 62 5F 31 06 01 01 63 05 00"},
		{list(flo(0), rec("true", truth(0))), "05 02 03 00 00 00 00 00 00 00 00 06 01 04 74 72 75 65 01 00"},
	} {
		checkValue(t, c.v, raw(c.want))
	}
	for _, length := range []int{127, 128, 199, 200} {
		checkValue(t, str(x("\xfe", length)), "\x04"+Uint(uint64(length))+x("\xfe", length))
	}
	checkForm(t, "\x04"+Uint(201), readValue, sameValue)
	checkForm(t, "\x04"+Str(x("a", 201)), readValue, sameValue)
	checkValue(t, rec(x("n", 30), num(1)), "\x06\x01\x1e"+x("n", 30)+"\x02\x02")
	checkForm(t, "\x06\x01\x1f", readValue, sameValue)
	checkForm(t, "\x06\x01\x1f"+x("n", 31)+"\x02\x02", readValue, sameValue)
}

// P5.1, P5.2: of all that are no number just one is written, and read.
func TestNaN(t *testing.T) {
	want := raw("03 7F F8 00 00 00 00 00 00")
	for _, bits := range []uint64{theNaN, theNaN | 1<<63, theNaN + 1, 0x7FF0000000000001, 0xFFF0000000000001, 0x7FF4000000000000, 0x7FFFFFFFFFFFFFFF, math.MaxUint64} {
		checkValue(t, floBits(bits), want)
		checkValue(t, list(num(1), rec("a", floBits(bits))), raw("05 02 02 02 06 01 01 61")+want)
		if bits == theNaN {
			continue
		}
		s := spell(floBits(bits))
		checkForm(t, s, readValue, sameValue)
		checkForm(t, "\x05\x02"+s, readValue, sameValue)
		checkTorn(t, s, readValue, sameValue) // told when all eight bytes are there
	}
}

// P5.1: what isn't right isn't written.
func TestNotWritten(t *testing.T) {
	for _, v := range []api.Value{
		{}, {Kind: -1}, {Kind: 7}, {Kind: 256 + api.VInt}, truth(2), truth(-1), {Kind: api.VInt, S: "x"}, {Kind: api.VInt, F: math.Copysign(0, -1)}, {Kind: api.VList, Names: []string{"a"}},
		str(x("a", 201)), rec("a"), rec("a", num(1), num(2)), rec("b a", num(1), num(2)), rec("a a", num(1), num(2)), rec("A", num(1)), rec(x("n", 31), num(1)),
		{Kind: api.VRec, Names: []string{""}, Items: []api.Value{num(1)}}, list(num(1), api.Value{}), rec("a", list(truth(2))), list(manyItems(200)...), nested(13), endless(),
	} {
		if s, e := Value(v); s != "" || e != api.ErrForm {
			t.Errorf("%d: %x, %d", v.Kind, s, e)
		}
	}
	for _, ty := range []api.Type{
		{}, typ(-1), typ(8), typ(256 + api.TInt), typ(api.TList), {Kind: api.TInt, Names: []string{"a"}}, {Kind: api.TNone, Items: []api.Type{typ(api.TInt)}}, {Kind: api.TList, Items: make([]api.Type, 2)},
		listOf(api.Type{}), recOf("a"), recOf("b a", typ(1), typ(1)), recOf("a a", typ(1), typ(1)), recOf("A", typ(1)), recOf(x("n", 31), typ(1)), recOf("a", typ(8)), flatType(201), nestedType(13), endlessType(),
	} {
		if s, e := Type(ty); s != "" || e != api.ErrForm {
			t.Errorf("type %d: %x, %d", ty.Kind, s, e)
		}
	}
}

func TestTypeBytes(t *testing.T) {
	for _, c := range []struct {
		ty   api.Type
		want string
	}{
		{typ(api.TBool), "01"}, {typ(api.TInt), "02"}, {typ(api.TFloat), "03"}, {typ(api.TStr), "04"}, {typ(api.TNone), "07"}, {listOf(typ(api.TInt)), "05 02"}, {listOf(listOf(typ(api.TNone))), "05 05 07"},
		{recOf(""), "06 00"}, {recOf("a b_1", typ(api.TStr), listOf(recOf("c", typ(api.TBool)))), "06 02 01 61 04 03 62 5F 31 05 06 01 01 63 01"}, {listOf(recOf("")), "05 06 00"},
	} {
		checkType(t, c.ty, raw(c.want))
	}
	checkType(t, recOf(x("n", 30), typ(api.TInt)), "\x06\x01\x1e"+x("n", 30)+"\x02")
	checkForm(t, "\x06\x01\x1f", readType, sameType)
	checkForm(t, "\x06\x01\x1f"+x("n", 31)+"\x02", readType, sameType)
}

// P5.2: at -1, at the length, and beyond it, whatever the bytes are.
func TestAt(t *testing.T) {
	for _, s := range []string{"", "\x00", "\x01\x01", "\x80", "\x05\x00\x00", x("\x00", 100)} {
		for _, at := range []int{math.MinInt, -len(s) - 1, -2, -1, len(s), len(s) + 1, len(s) + 2, 1 << 31, 1 << 32, math.MaxInt} {
			want := api.ErrRange
			if at == len(s) {
				want = api.ErrTorn
			}
			for name, got := range map[string]reading[any]{
				"ReadUint":  loose(readUint(s, at), sameThing),
				"ReadInt":   loose(readInt(s, at), sameThing),
				"ReadStr -": loose(readStr(-1)(s, at), sameThing),
				"ReadStr 0": loose(readStr(0)(s, at), sameThing),
				"ReadStr 9": loose(readStr(9)(s, at), sameThing),
				"ReadValue": loose(readValue(s, at), sameValue),
				"ReadType":  loose(readType(s, at), sameType),
			} {
				if got.got != nil || got.next != 0 || got.e != want {
					t.Errorf("%s of %x at %d: %v", name, s, at, got)
				}
			}
		}
	}
}

// loose has nil for what is zero, so that readings of all kinds are held alike.
func loose[T any](r reading[T], same func(a, b T) bool) reading[any] {
	var zero T
	if same(r.got, zero) {
		return reading[any]{nil, r.next, r.e}
	}
	return reading[any]{r.got, r.next, r.e}
}

// P5.2: bytes that are no value, or no type, wherever they stand in one.
func TestNoValue(t *testing.T) {
	for kind := range 256 {
		if kind < api.VBool || kind > api.VRec {
			checkForm(t, string([]byte{byte(kind)}), readValue, sameValue)
			checkForm(t, "\x05\x02\x02\x02"+string([]byte{byte(kind)}), readValue, sameValue)
		}
		if kind < api.TBool || kind > api.TNone {
			checkForm(t, string([]byte{byte(kind)}), readType, sameType)
			checkForm(t, "\x06\x02\x01a\x02\x01b\x05"+string([]byte{byte(kind)}), readType, sameType)
		}
		if kind > 1 {
			checkForm(t, "\x01"+string([]byte{byte(kind)}), readValue, sameValue)
		}
	}
	for _, s := range []string{
		"02 80 00", "02 FF FF FF FF FF FF FF FF FF 02", "04 81 00 61", "05 80 00", "06 80 00", "06 01 81 00 61 02 02", "05 02 02 02 01 02",
		"05 C9 01", "06 C9 01", "05 FF FF FF FF FF FF FF FF FF 01", "06 80 80 80 80 10", // more Items than 200
	} {
		checkForm(t, raw(s), readValue, sameValue)
	}
	for _, s := range []string{"06 80 00", "06 C9 01", "05 06 C9 01", "06 80 80 80 80 80 80 80 80 80 01", "06 01 81 00 61 02"} {
		checkForm(t, raw(s), readType, sameType)
	}
}

// P5.2: names that are none, or don't rise, are told last: behind all that stands there.
func TestToldLast(t *testing.T) {
	for _, names := range []string{"A", "_", "1", "b a", "a a", "a c b", "aa a", "a B", "a " + x("n", 29) + "-"} {
		var items []api.Value
		var types []api.Type
		for range strings.Fields(names) {
			items, types = append(items, num(1)), append(types, typ(api.TInt))
		}
		s := spell(list(rec(names, items...), truth(1)))
		checkTorn(t, s, readValue, sameValue)
		checkForm(t, s, readValue, sameValue)
		ts := spellType(recOf("a b", recOf(names, types...), typ(api.TInt)))
		checkTorn(t, ts, readType, sameType)
		checkForm(t, ts, readType, sameType)
	}
	checkError(t, raw("06 01 00 02"), readValue, sameValue, api.ErrTorn) // a name of no bytes
	checkForm(t, raw("06 01 00 02 02"), readValue, sameValue)
	checkForm(t, raw("06 01 00 02"), readType, sameType)
}

func manyItems(n int) []api.Value { return slices.Repeat([]api.Value{num(3)}, n) }

// flatValues answers values of n parts.
func flatValues(n int) []api.Value {
	return []api.Value{
		list(manyItems(n - 1)...),
		{Kind: api.VRec, Names: manyNames(n - 1), Items: manyItems(n - 1)},
		rec("a", list(manyItems(n-2)...)),
		list(list(manyItems(n/2)...), rec("a b", num(1), list(manyItems(n-n/2-5)...))),
		list(append(manyItems(n-4), list(list(num(1))))...),
	}
}

func flatType(n int) api.Type {
	return api.Type{Kind: api.TRec, Names: manyNames(n - 1), Items: slices.Repeat([]api.Type{typ(api.TInt)}, n-1)}
}

// nested answers a value of so many within one another: lists and records by turns.
func nested(depth int) api.Value {
	v := num(3)
	for i := 1; i < depth; i++ {
		if i%2 == 0 {
			v = rec("a", v)
		} else {
			v = list(v)
		}
	}
	return v
}

func nestedType(depth int) api.Type {
	t := typ(api.TInt)
	for i := 1; i < depth; i++ {
		if i%2 == 0 {
			t = recOf("a", t)
		} else {
			t = listOf(t)
		}
	}
	return t
}

// endless answers a list that has itself within itself.
func endless() api.Value {
	v := list(num(1), api.Value{})
	v.Items[1] = v
	return v
}

func endlessType() api.Type {
	t := listOf(api.Type{})
	t.Items[0] = t
	return t
}

// checkSoon wants ErrForm where the last part begins, though none of its bytes are there, and ErrTorn ahead of it; last is how many bytes it has.
func checkSoon[T any](t *testing.T, s string, last int, read func(string, int) reading[T], same func(a, b T) bool) {
	t.Helper()
	begun := len(s) - last
	checkTorn(t, s[:begun], read, same)
	checkForm(t, s[:begun], read, same)
	checkForm(t, s, read, same)
}

// P5.2: 200 and 201 parts.
func TestParts(t *testing.T) {
	for _, n := range []int{50, 199, 200} {
		for _, v := range flatValues(n) {
			checkValue(t, v, spell(v))
		}
		checkType(t, flatType(n), spellType(flatType(n)))
	}
	for _, v := range flatValues(201) {
		checkSoon(t, spell(v), 2, readValue, sameValue)
	}
	checkSoon(t, spellType(flatType(201)), 1, readType, sameType)
	for _, n := range []int{202, 300, 5000} {
		for _, v := range flatValues(n) {
			checkForm(t, spell(v), readValue, sameValue)
		}
		checkForm(t, spellType(flatType(n)), readType, sameType)
	}
	checkForm(t, "\x05\xc8\x01"+x("\x05\xc8\x01", 1000), readValue, sameValue)
	half := listOf(flatType(100)) // 101 parts
	both := recOf("a b", half, flatType(98))
	checkType(t, both, spellType(both))
	checkSoon(t, spellType(recOf("a b", half, flatType(99))), 1, readType, sameType)
}

// P5.2: 12 and 13 within one another.
func TestDepth(t *testing.T) {
	for depth := 1; depth <= 12; depth++ {
		checkValue(t, nested(depth), spell(nested(depth)))
		checkType(t, nestedType(depth), spellType(nestedType(depth)))
	}
	checkSoon(t, spell(nested(13)), 2, readValue, sameValue)
	checkSoon(t, spellType(nestedType(13)), 1, readType, sameType)
	lists, empty := x("\x05\x01", 11), raw("05 00")
	checkRead(t, lists+empty, readValue, sameValue, nestedLists(12))
	checkSoon(t, lists+"\x05\x01"+empty, 2, readValue, sameValue)
	checkForm(t, x("\x05\x01", 100000), readValue, sameValue)
	checkForm(t, x("\x06\x01\x00", 100000), readValue, sameValue)
	checkForm(t, x("\x05", 100000), readType, sameType)
	wide := list(nested(11), nested(11), num(1), nested(11))
	checkValue(t, wide, spell(wide))
	checkForm(t, spell(list(num(1), wide)), readValue, sameValue)
}

// P5.2: a part that is one too many is told where it should stand, and not ahead of it: neither by what is said to come, nor by a name.
func TestOneTooManyBegins(t *testing.T) {
	lists, records := x("\x05\x01", 12), x("\x06\x01\x01a", 12)
	for _, s := range []string{lists, x("\x05\xc8\x01", 12), records, x("\x06\xc8\x01\x00", 12), x("\x05\x01\x06\x01\x01a", 6), x("\x06\x01\x01a\x05\x02", 6), "\x05\x02\x02\x02" + x("\x05\x01", 11)} {
		checkSoon(t, s, 0, readValue, sameValue)
	}
	for _, s := range []string{x("\x05", 12), records, x("\x06\xc8\x01\x00", 12), x("\x05\x06\x01\x01a", 6), "\x06\x02\x01a\x02\x01b" + x("\x05", 11)} {
		checkSoon(t, s, 0, readType, sameType)
	}
	checkRead(t, lists[:22]+"\x05\x00", readValue, sameValue, nestedLists(12))
	checkForm(t, records[:46]+"\x1f", readValue, sameValue) // the twelfth's name is its own
	checkForm(t, records[:46]+"\x1f", readType, sameType)

	checkSoon(t, "\x05\xc8\x01"+x("\x01\x00", 199), 0, readValue, sameValue)
	checkSoon(t, "\x05\x02\x05\xc5\x01"+x("\x01\x00", 197)+"\x05\x01", 0, readValue, sameValue)
	checkSoon(t, "\x06\xc8\x01"+x("\x01a\x01\x00", 199)+"\x01a", 0, readValue, sameValue)
	checkSoon(t, "\x06\xc8\x01"+x("\x01a\x02", 199)+"\x01a", 0, readType, sameType)
	checkSoon(t, "\x06\xc7\x01"+x("\x01a\x02", 198)+"\x01a\x05", 0, readType, sameType)
	checkRead(t, "\x05\xc7\x01"+x("\x01\x00", 199), readValue, sameValue, list(slices.Repeat([]api.Value{truth(0)}, 199)...))
}

// nestedLists answers an empty list within others.
func nestedLists(depth int) api.Value {
	v := list()
	for range depth - 1 {
		v = list(v)
	}
	return v
}

// anyValue answers a value of any shape; it may be too great, and a few have fields that may not be.
func anyValue(r *rand.Rand, deep int) api.Value {
	switch k := r.Intn(20); {
	case k < 2:
		return truth(int64(r.Intn(2)))
	case k < 5:
		return num(int64(r.Uint64()) >> r.Intn(64))
	case k < 8:
		return floBits([]uint64{r.Uint64(), 0, 1 << 63, theNaN, theNaN + 1, 0x7FF0000000000000, 0xFFF0000000000000, math.Float64bits(1.5)}[r.Intn(8)])
	case k < 11 || deep == 0:
		return str(x(string([]byte{byte(r.Intn(256))}), []int{0, 1, 1, 2, 2, 3, 5, 127, 128, 200, 201}[r.Intn(11)]))
	case k < 15:
		return list(anyItems(r, deep)...)
	}
	items := anyItems(r, deep)
	names := manyNames(len(items))
	if len(names) > 0 && r.Intn(10) == 0 {
		names[r.Intn(len(names))] = []string{"", "A", "zz", "a", x("n", 30), x("n", 31)}[r.Intn(6)]
	}
	return api.Value{Kind: api.VRec, Names: names, Items: items}
}

func anyItems(r *rand.Rand, deep int) []api.Value {
	items := make([]api.Value, r.Intn(5))
	for i := range items {
		items[i] = anyValue(r, deep-1)
	}
	return items
}

func anyType(r *rand.Rand, deep int) api.Type {
	k := r.Intn(12)
	if k < 4 || deep == 0 {
		return typ([]int{api.TBool, api.TInt, api.TFloat, api.TStr, api.TNone}[r.Intn(5)])
	}
	if k < 7 {
		return listOf(anyType(r, deep-1))
	}
	items := make([]api.Type, r.Intn(5))
	for i := range items {
		items[i] = anyType(r, deep-1)
	}
	names := manyNames(len(items))
	if len(names) > 0 && r.Intn(10) == 0 {
		names[r.Intn(len(names))] = []string{"", "A", "zz", "a", x("n", 30), x("n", 31)}[r.Intn(6)]
	}
	return api.Type{Kind: api.TRec, Names: names, Items: items}
}

// P5.1, P5.3: values and types of any shape, against the document's words.
func TestAnyShape(t *testing.T) {
	r := rand.New(rand.NewSource(3))
	right, wrong := 0, 0
	for range 1500 {
		v := anyValue(r, r.Intn(14))
		if value.Right(v) {
			right++
			checkValue(t, v, spell(value.Canon(v)))
		} else if s, e := Value(v); s != "" || e != api.ErrForm {
			t.Errorf("%v: %x, %d", v, s, e)
		} else {
			wrong++
		}
		ty := anyType(r, r.Intn(14))
		if value.TypeRight(ty) {
			right++
			checkType(t, ty, spellType(ty))
		} else if s, e := Type(ty); s != "" || e != api.ErrForm {
			t.Errorf("%v: %x, %d", ty, s, e)
		} else {
			wrong++
		}
	}
	if right < 1000 || wrong < 100 {
		t.Error("right", right, "wrong", wrong)
	}
}

// A hand reads by the document's words, byte by byte, and keeps its first error.
type hand struct {
	left  string
	parts int
	e     api.Errno
}

func (h *hand) fail(e api.Errno) {
	if h.e == api.OK {
		h.e = e
	}
}

func (h *hand) bytes(n int) string {
	if h.e == api.OK && len(h.left) < n {
		h.fail(api.ErrTorn)
	}
	if h.e != api.OK {
		return x("\x00", n)
	}
	s := h.left[:n]
	h.left = h.left[n:]
	return s
}

func (h *hand) number() *big.Int {
	sum := new(big.Int)
	for i := uint(0); h.e == api.OK; i++ {
		b := h.bytes(1)[0]
		if i == 9 && b > 1 {
			h.fail(api.ErrForm)
		}
		sum.Add(sum, new(big.Int).Lsh(big.NewInt(int64(b%128)), 7*i))
		if b < 128 {
			if b == 0 && i > 0 {
				h.fail(api.ErrForm)
			}
			return sum
		}
	}
	return sum
}

func (h *hand) upTo(most int64) int {
	n := h.number()
	if n.Cmp(big.NewInt(most)) > 0 {
		h.fail(api.ErrForm)
		return 0
	}
	return int(n.Int64())
}

func (h *hand) signed() int64 {
	n := h.number()
	if n.Bit(0) == 1 {
		n.Neg(n.Add(n, big.NewInt(1)))
	}
	return n.Quo(n, big.NewInt(2)).Int64()
}

func (h *hand) text(most int64) string { return h.bytes(h.upTo(most)) }

// kind begins a part, and fails there and then if it is one too many.
func (h *hand) kind(depth int) int {
	h.parts++
	if depth == 13 || h.parts == 201 {
		h.fail(api.ErrForm)
	}
	return int(h.bytes(1)[0])
}

func (h *hand) value(depth int) api.Value {
	v := api.Value{Kind: h.kind(depth)}
	switch v.Kind {
	case 1:
		v.N = int64(h.bytes(1)[0])
		if v.N > 1 {
			h.fail(api.ErrForm)
		}
	case 2:
		v.N = h.signed()
	case 3:
		eight := h.bytes(8)
		v.F = math.Float64frombits(new(big.Int).SetBytes([]byte(eight)).Uint64())
		if v.F != v.F && eight != "\x7f\xf8\x00\x00\x00\x00\x00\x00" {
			h.fail(api.ErrForm)
		}
	case 4:
		v.S = h.text(200)
	case 5, 6:
		for n := h.upTo(200); n > 0 && h.e == api.OK; n-- {
			if v.Kind == 6 {
				v.Names = append(v.Names, h.text(30))
			}
			v.Items = append(v.Items, h.value(depth+1))
		}
	default:
		h.fail(api.ErrForm)
	}
	if depth == 1 && !value.Right(v) {
		h.fail(api.ErrForm)
	}
	return v
}

func (h *hand) typ(depth int) api.Type {
	t := api.Type{Kind: h.kind(depth)}
	switch t.Kind {
	case 1, 2, 3, 4, 7:
	case 5:
		if h.e == api.OK {
			t.Items = append(t.Items, h.typ(depth+1))
		}
	case 6:
		for n := h.upTo(200); n > 0 && h.e == api.OK; n-- {
			t.Names = append(t.Names, h.text(30))
			t.Items = append(t.Items, h.typ(depth+1))
		}
	default:
		h.fail(api.ErrForm)
	}
	if depth == 1 && !value.TypeRight(t) {
		h.fail(api.ErrForm)
	}
	return t
}

// byHand answers what a hand reads of s.
func byHand[T any](s string, read func(*hand) T) reading[T] {
	h := hand{left: s}
	got := read(&h)
	if h.e != api.OK {
		return reading[T]{e: h.e}
	}
	return reading[T]{got, len(s) - len(h.left), api.OK}
}

// checkByHand holds all readers against the hand's, and writes again what was read.
func checkByHand(t *testing.T, s string) {
	t.Helper()
	check(t, s, readUint, sameThing, byHand(s, func(h *hand) uint64 { return h.number().Uint64() }))
	check(t, s, readInt, sameThing, byHand(s, (*hand).signed))
	for most := range 5 {
		check(t, s, readStr(most-1), sameThing, byHand(s, func(h *hand) string { return h.text(int64(most - 1)) }))
	}
	v := byHand(s, func(h *hand) api.Value { return h.value(1) })
	check(t, s, readValue, sameValue, v)
	if again, e := Value(v.got); v.e == api.OK && (again != s[:v.next] || e != api.OK) {
		t.Fatalf("%x is written again as %x, %d", s[:v.next], again, e)
	}
	ty := byHand(s, func(h *hand) api.Type { return h.typ(1) })
	check(t, s, readType, sameType, ty)
	if again, e := Type(ty.got); ty.e == api.OK && (again != s[:ty.next] || e != api.OK) {
		t.Fatalf("type %x is written again as %x, %d", s[:ty.next], again, e)
	}
}

// P5.2, P5.3: all short rows of bytes that matter.
func TestShortBytes(t *testing.T) {
	alphabet := "\x00\x01\x02\x04\x05\x06\x07\x08a\x80\xff"
	var all func(s string, more int)
	all = func(s string, more int) {
		checkByHand(t, s)
		if more > 0 {
			for i := range len(alphabet) {
				all(s+alphabet[i:i+1], more-1)
			}
		}
	}
	all("", 4)
	all("\x05\x01", 3)
	all("\x06\x02\x01a\x04\x01a", 3)
	all("\x06\x01\x01a", 3)
	all("\x03\x7f\xf8\x00\x00\x00\x00", 2)
	all(x("\x05\x01", 11), 3)
	all(x("\x06\x01\x01a", 11), 4)
	all(x("\x05", 11), 3)
	all("\x05\xc8\x01"+x("\x01\x00", 197), 3)
}

// turned answers s with something in it changed, or cut off.
func turned(r *rand.Rand, s string) string {
	if s == "" {
		return s
	}
	i := r.Intn(len(s))
	c := string([]byte{[]byte{0, 1, 2, 3, 4, 5, 6, 7, 30, 31, 127, 128, 200, 201, 255, byte(r.Intn(256))}[r.Intn(16)]})
	switch r.Intn(5) {
	case 0:
		return s[:i]
	case 1:
		return s[:i] + s[i+1:]
	case 2:
		return s[:i] + c + s[i:]
	case 3:
		j := i + r.Intn(len(s)-i)
		return s[:j] + s[i:]
	}
	return s[:i] + c + s[i+1:]
}

// P5.2: bytes of values and types that were turned.
func TestTurnedBytes(t *testing.T) {
	r := rand.New(rand.NewSource(4))
	for range 6000 {
		s := spell(anyValue(r, r.Intn(14)))
		if r.Intn(2) == 0 {
			s = spellType(anyType(r, r.Intn(14)))
		}
		for range r.Intn(4) {
			s = turned(r, s)
		}
		checkByHand(t, s)
	}
	for range 3000 {
		s := make([]byte, r.Intn(40))
		for i := range s {
			s[i] = byte(r.Intn(256) >> r.Intn(8))
		}
		checkByHand(t, string(s))
	}
}

// lies tells whether any byte of part is in whole, as memory.
func lies(part, whole string) bool {
	if part == "" {
		return false
	}
	from, at := uintptr(unsafe.Pointer(unsafe.StringData(whole))), uintptr(unsafe.Pointer(unsafe.StringData(part)))
	return at >= from && at < from+uintptr(len(whole))
}

// What is answered is new memory, and what is handed in stays.
func TestNewMemory(t *testing.T) {
	s := spell(rec("ab cd", str("xyz"), list(num(1), num(2))))
	v, _, _ := ReadValue(s, 0)
	other, _, _ := ReadValue(s, 0)
	typeBytes, strBytes := spellType(recOf("ab", typ(api.TInt))), Str("xyz")
	ty, _, _ := ReadType(typeBytes, 0)
	text, _, _ := ReadStr(strBytes, 0, 3)
	if text != "xyz" || lies(v.Names[0], s) || lies(v.Items[0].S, s) || lies(ty.Names[0], typeBytes) || lies(text, strBytes) {
		t.Error("a string within the bytes that were handed in")
	}
	v.Names[0], v.Items[0], v.Items[1].Items[0] = "q", num(7), num(8)
	if !sameValue(other, rec("ab cd", str("xyz"), list(num(1), num(2)))) {
		t.Error("two answers share:", other)
	}

	items, names := append(make([]api.Value, 0, 4), floBits(theNaN+1), num(2)), append(make([]string, 0, 4), "a", "b")
	given := api.Value{Kind: api.VRec, Names: names, Items: items}
	before := spell(given)
	if _, e := Value(given); e != api.OK || spell(given) != before || !sameValue(items[:4][2], api.Value{}) || names[:4][2] != "" {
		t.Error("what was handed in changed")
	}
	if s := "q"; lies(Str(s), s) || lies(Str(""), "") {
		t.Error("a string is kept")
	}
}
