package pack

import (
	"fmt"
	"math"
	"math/rand"
	"reflect"
	"testing"

	"bascule/api"
)

// checkNoCmd wants an error alone.
func checkNoCmd(t *testing.T, c api.Cmd) {
	t.Helper()
	if s, e := Cmd(c); s != "" || e != api.ErrForm {
		t.Fatalf("written: %s, error %d", short(s), e)
	}
}

// checkNoneAt wants an error alone, of s at a place.
func checkNoneAt(t *testing.T, s string, at int, want api.Errno) {
	t.Helper()
	if c, next, e := ReadCmd(s, at); !isNothing(c) || next != 0 || e != want {
		t.Fatalf("%s at %d: %+v, %d, error %d, not %d", short(s), at, c, next, e, want)
	}
}

// aheads are bytes that may stand ahead of a command, and mean nothing there.
func aheads() []string { return []string{"", "\x80", "\x04\x00\x00\x00\x00\x00\x00", x("\xff", 300)} }

// checkNone wants bytes to be none of a command, whatever stands ahead.
func checkNone(t *testing.T, s string) {
	t.Helper()
	for _, ahead := range aheads() {
		checkNoneAt(t, ahead+s, len(ahead), api.ErrForm)
	}
}

// checkReadCmd wants a command to stand in bytes, as their first ones, whatever stands around them.
func checkReadCmd(t *testing.T, s string, want api.Cmd) {
	t.Helper()
	for _, ahead := range aheads() {
		for _, behind := range []string{"", "\x00", "\x01", "\x80\x01", "\xff", s} {
			c, next, e := ReadCmd(ahead+s+behind, len(ahead))
			if e != api.OK || next != len(ahead)+len(s) || !alike(c, want) {
				t.Fatalf("%s behind %d bytes: %+v, %d, error %d, not %+v", short(s), len(ahead), c, next, e, want)
			}
			if again, e := Cmd(c); again != s || e != api.OK {
				t.Fatalf("%s is written again as %s, error %d", short(s), short(again), e)
			}
		}
	}
}

// checkCmd wants a command, with floats that are canonical, and bytes to be each other's, and nothing less to be it.
func checkCmd(t *testing.T, c api.Cmd, want string) {
	t.Helper()
	if s, e := Cmd(c); s != want || e != api.OK {
		t.Fatalf("%+v: %s, error %d, not %s", c, short(s), e, short(want))
	}
	checkReadCmd(t, want, c)
	for end := range len(want) {
		if end < 20 || end > len(want)-20 {
			checkNone(t, want[:end])
		}
	}
}

// P13.2: commands in plain bytes.
func TestCmdBytes(t *testing.T) {
	checkCmd(t, api.Cmd{}, raw("00 00 00 00 00 00 00"))
	checkCmd(t, api.Cmd{Kind: api.CTick}, raw("04 00 00 00 00 00 00"))
	checkCmd(t, api.Cmd{Kind: api.CStart, Node: 300}, raw("01 AC 02 00 00 00 00 00"))
	checkCmd(t, api.Cmd{Kind: api.CComplete, Node: 3, Inst: api.Ref{Label: 2, N: 1}, V: num(-3)}, raw("02 03 02 01 00 00 01 02 05"))
	checkCmd(t, api.Cmd{Kind: api.CDeliver, Node: 1, Key: str("k"), V: truth(1)}, raw("03 01 00 00 00 01 04 01 6B 01 01 01"))
	checkCmd(t, api.Cmd{Kind: api.CPick, Node: 1, N: 10000}, raw("05 01 00 00 90 4E 00 00"))
	checkCmd(t, api.Cmd{Kind: 10000, Node: 9999, Inst: api.Ref{Label: 128, N: 127}, N: 1, Key: flo(1.5), V: list()}, raw("90 4E 8F 4E 80 01 7F 01 01 03 3F F8 00 00 00 00 00 00 01 05 00"))
	checkCmd(t, fullCmd(), spellCmd(fullCmd()))
}

// numbersOf names each number of a command by itself.
func numbersOf(c *api.Cmd) map[string]*int {
	return map[string]*int{"Kind": &c.Kind, "Node": &c.Node, "Inst.Label": &c.Inst.Label, "Inst.N": &c.Inst.N, "N": &c.N}
}

// P13.2: each number of a command by itself.
func TestCmdNumbers(t *testing.T) {
	for _, plain := range []api.Cmd{{}, fullCmd()} {
		for name := range numbersOf(&plain) {
			for _, n := range []int{0, 1, 5, 6, 127, 128, 9999, 10000} {
				c := plain
				*numbersOf(&c)[name] = n
				checkCmd(t, c, spellCmd(c))
			}
			for _, n := range []int{-1, -2, 10001, 10002, 16384, math.MaxInt32, math.MinInt32, 1 << 32, 1<<32 + 4, -1 << 32, math.MaxInt, math.MinInt} {
				c := plain
				*numbersOf(&c)[name] = n
				checkNoCmd(t, c)
				checkNone(t, spellCmd(c))
			}
		}
	}
}

// valuesOf are the two values of a command.
func valuesOf(c *api.Cmd) []*api.Value { return []*api.Value{&c.Key, &c.V} }

// P13.2: values, right and not, and none, with nothing else in it, or something.
func TestCmdValues(t *testing.T) {
	for at := range 2 {
		for _, plain := range []api.Cmd{{}, fullCmd()} {
			with := func(v api.Value) api.Cmd {
				c := plain
				*valuesOf(&c)[at] = v
				return c
			}
			for _, v := range append(rightValues(), api.Value{}, api.Value{Names: []string{}, Items: []api.Value{}}, api.Value{Names: make([]string, 0, 3), Items: make([]api.Value, 0, 3)}) {
				checkCmd(t, with(v), spellCmd(with(v)))
			}
			some := []api.Value{
				{N: 1}, {N: -1}, {N: math.MinInt64}, {S: "x"}, {S: "\x00"}, {Names: []string{""}}, {Names: []string{"a"}}, {Items: make([]api.Value, 1)}, {Items: []api.Value{num(1)}}, {Names: []string{"a"}, Items: []api.Value{num(1)}}, {Items: endlessValue().Items}, {N: 1, S: "x"},
				{F: 1}, {F: -1}, {F: math.Copysign(0, -1)}, {F: math.NaN()}, {F: math.Float64frombits(0x7FF0000000000001)}, {F: math.Inf(-1)}, {F: math.SmallestNonzeroFloat64},
			}
			for _, v := range append(some, wrongValues()...) {
				checkNoCmd(t, with(v))
			}
			want := spellCmd(with(list(floBits(0x7FF8000000000000), num(1))))
			for _, bits := range []uint64{0x7FF8000000000001, 0xFFF8000000000000, 0x7FF0000000000001, math.MaxUint64} {
				if s, e := Cmd(with(list(floBits(bits), num(1)))); s != want || e != api.OK {
					t.Fatalf("%x: %s, error %d", bits, short(s), e)
				}
			}
		}
	}
	if a, _ := Cmd(api.Cmd{Key: flo(0)}); a != raw("00 00 00 00 00 01 03 00 00 00 00 00 00 00 00 00") {
		t.Error("zero:", short(a))
	}
	if a, _ := Cmd(api.Cmd{Key: flo(math.Copysign(0, -1))}); a != raw("00 00 00 00 00 01 03 80 00 00 00 00 00 00 00 00") {
		t.Error("zero with a minus:", short(a))
	}
	great := list(sized(199, str(x("s", 200)))...) // no command is too long
	both := api.Cmd{Key: great, V: great}
	checkCmd(t, both, spellCmd(both))
}

// checkCmdByHand holds ReadCmd at any place against the document's words.
func checkCmdByHand(t *testing.T, s string, at int) bool {
	t.Helper()
	if at < 0 || at > len(s) {
		checkNoneAt(t, s, at, api.ErrRange)
		return false
	}
	want, end, e := handCmd(s, at)
	if e != api.OK {
		checkNoneAt(t, s, at, e)
		return false
	}
	c, next, e := ReadCmd(s, at)
	if e != api.OK || next != end || !alike(c, want) {
		t.Fatalf("%s at %d: %+v, %d, error %d, not %+v, %d", short(s), at, c, next, e, want, end)
	}
	if again, e := Cmd(c); again != s[at:next] || e != api.OK {
		t.Fatalf("%s is written again as %s, error %d", short(s[at:next]), short(again), e)
	}
	return true
}

// P13.2: at 0, amid, at the length of s, beyond it, and below 0.
func TestCmdPlaces(t *testing.T) {
	tick, all := spellCmd(api.Cmd{Kind: 4}), spellCmd(fullCmd())
	for _, s := range []string{"", "\x00", "\x80", tick, tick + tick, all, all + tick + all, x("\x00", 20), "\xff" + tick} {
		for at := -len(s) - 3; at <= len(s)+3; at++ {
			checkCmdByHand(t, s, at)
		}
		for _, at := range []int{math.MinInt, math.MinInt + 1, -1 << 32, -1, len(s) + 1, 1 << 31, 1 << 32, 1<<32 + 1, math.MaxInt - 1, math.MaxInt} {
			checkNoneAt(t, s, at, api.ErrRange)
		}
		checkNoneAt(t, s, len(s), api.ErrForm)
	}
	row := tick + all + tick // one behind the other
	for at, i := 0, 0; i < 3; i++ {
		c, next, e := ReadCmd(row, at)
		if want := []api.Cmd{{Kind: 4}, fullCmd(), {Kind: 4}}[i]; e != api.OK || !alike(c, want) || next != []int{7, 7 + len(all), 14 + len(all)}[i] {
			t.Fatal(i, c, next, e)
		}
		at = next
	}
}

// plainCmds are a few to be turned, byte by byte.
func plainCmds() []api.Cmd {
	return []api.Cmd{{}, {Kind: api.CTick}, fullCmd(), {Kind: 3, Node: 200, N: 10000, Key: str("k"), V: flo(0)}, {V: rec("a b", truth(1), list(num(300)))}, {Key: truth(0)}}
}

// P13.2, P13.3: each byte of a command turned into each other one.
func TestTurnedCmds(t *testing.T) {
	count := map[bool]int{}
	for _, c := range plainCmds() {
		s := spellCmd(c)
		for at := range s {
			for b := range 256 {
				other := s[:at] + string([]byte{byte(b)}) + s[at+1:]
				count[checkCmdByHand(t, other, 0)]++
				checkCmdByHand(t, other+"\x01\x02\x03", 0)
				checkCmdByHand(t, "\x85"+other, 1)
			}
		}
	}
	if count[true] < 1000 || count[false] < 1000 {
		t.Error("hardly any of one side:", count)
	}
}

// P13.2: numbers in more bytes than they need, or above 10000; a byte of 2 where 0 or 1 stands; values that are none: in the place of each by itself.
func TestOtherCmdPieces(t *testing.T) {
	done := map[string]int{}
	for _, c := range plainCmds() {
		all := cmdPieces(c)
		for at, p := range all {
			for _, other := range others(p) {
				checkNone(t, replacedIn(all, at, other))
				done[p.of]++
			}
			if p.of == "value" {
				checkNone(t, replacedIn(all, at, "\x00"+p.s))
				checkNone(t, replacedIn(all, at, "\x00"))
			}
		}
	}
	for _, of := range []string{"number", "flag", "value"} {
		if done[of] < 30 {
			t.Error("hardly any", of)
		}
	}
	for _, s := range []string{"04 00 00 00 00 02 00", "04 00 00 00 00 00 02", "04 00 00 00 00 02 02 02 00", "04 00 00 00 00 80 00 00", "04 00 00 00 00 81 00 02 02 00", "84 00 00 00 00 00 00 00", "04 00 00 00 00 01 00 00", "04 00 00 00 00 00 01 00", "04 00 00 00 91 4E 00 00", "04 00 00 00 00 00"} {
		checkNone(t, raw(s))
	}
}

// P13.2: short rows of bytes that matter.
func TestShortCmds(t *testing.T) {
	alphabet := "\x00\x01\x02\x80"
	count := map[bool]int{}
	var all func(s string, more int)
	all = func(s string, more int) {
		count[checkCmdByHand(t, s, 0)]++
		for i := range len(alphabet) {
			if more > 0 {
				all(s+alphabet[i:i+1], more-1)
			}
		}
	}
	all("", 7)
	all("\x01\x00\x00\x00\x00", 6)
	if count[true] < 100 || count[false] < 1000 {
		t.Error("hardly any of one side:", count)
	}
}

// P13.2, P13.3: commands of any shape, and such with up to three parts of others.
func TestAnyCmd(t *testing.T) {
	r := rand.New(rand.NewSource(5))
	count := map[bool]int{}
	for range 2000 {
		c := anyCmd(r)
		checkCmd(t, c, spellCmd(c))
		for range 1 + r.Intn(3) {
			all := spots(reflect.ValueOf(&c).Elem())
			for !pick(r, changes()...)(pick(r, all...)) {
			}
		}
		ok := mayBeCmd(c)
		count[ok]++
		if !ok {
			checkNoCmd(t, c)
			continue
		}
		want := spellCmd(c)
		if s, e := Cmd(c); s != want || e != api.OK {
			t.Fatalf("%+v: %s, error %d, not %s", c, short(s), e, short(want))
		}
		canonical(reflect.ValueOf(&c).Elem())
		checkReadCmd(t, want, c)
	}
	if count[true] < 200 || count[false] < 200 {
		t.Error("hardly any of one side:", count)
	}
}

// P13.2, P13.3: commands' bytes in which up to four things are changed, and any bytes, at any place.
func TestAnyCmdBytes(t *testing.T) {
	r := rand.New(rand.NewSource(6))
	count := map[bool]int{}
	for range 10000 {
		s := spellCmd(anyCmd(r)) + spellCmd(anyCmd(r))
		for range r.Intn(4) {
			s = turned(r, s)
		}
		count[checkCmdByHand(t, s, 0)]++
		for range 4 {
			count[checkCmdByHand(t, s, r.Intn(len(s)+8)-4)]++
		}
	}
	if count[true] < 2000 || count[false] < 2000 {
		t.Error("hardly any of one side:", fmt.Sprint(count))
	}
	for range 20000 {
		b := make([]byte, r.Intn(20))
		for i := range b {
			b[i] = pick(r, 0, 0, 0, 1, 2, 5, 128, byte(r.Intn(256)))
		}
		checkCmdByHand(t, string(b), r.Intn(4))
	}
}
