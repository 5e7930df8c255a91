package pack

import (
	"math/rand"
	"slices"
	"testing"

	"bascule/api"
	"bascule/parse"
)

// checkByHand holds Unpack against the document's words, and writes again what was read.
func checkByHand(t *testing.T, s string) bool {
	t.Helper()
	if len(s) > 1<<14 {
		checkNoModel(t, s, api.ErrFull)
		return false
	}
	want, e := handModel(s)
	if e != api.OK {
		checkNoModel(t, s, e)
		return false
	}
	checkRead(t, s, want)
	return true
}

// plainModels are a few to be turned, byte by byte.
func plainModels() []api.Model {
	return []api.Model{{}, full(),
		{Labels: 300, Nodes: []api.Node{{Conds: make([]api.Expr, 2), Var: -1, Msg: 126, Catch: 9999, Wait: 10000}}},
		{Vars: []api.Var{{Name: x("\xff", 30), Type: listOf(typ(api.TNone)), Init: flo(0)}}, Msgs: []api.Msg{{Key: typ(api.TInt), Body: recOf("a b", typ(1), typ(2))}}},
		{Nodes: []api.Node{{Body: ofText(150)}}},
	}
}

// P13.1, P13.3: each byte of a model turned into each other one.
func TestTurnedModels(t *testing.T) {
	count := map[bool]int{}
	for _, m := range plainModels() {
		s := spellModel(m)
		checkModel(t, m, s)
		for at := range s {
			for b := range 256 {
				other := s[:at] + string([]byte{byte(b)}) + s[at+1:]
				ok := checkByHand(t, other)
				if at < 4 && ok && other != s {
					t.Fatalf("read without its first four bytes: %s", short(other))
				}
				count[ok]++
			}
		}
	}
	if count[true] < 1000 || count[false] < 1000 {
		t.Error("hardly any of one side:", count)
	}
}

// P13.3: what is cut off is none, and so is what has more behind.
func TestCutOffModels(t *testing.T) {
	models := append(plainModels(), ofSize(t, 3000), ofSize(t, 1<<14))
	r := rand.New(rand.NewSource(2))
	for range 100 {
		models = append(models, anyModel(r))
	}
	for _, m := range models {
		s := spellModel(m)
		step := 1 + len(s)/500
		for end := 0; end < len(s); end += step {
			checkNoModel(t, s[:end], api.ErrForm)
		}
		checkNoModel(t, s[:len(s)-1], api.ErrForm)
		for _, behind := range []string{"\x00", "\x01", "\x80", "\xff", "BPM1", s, x("\x00", 13)} {
			want := api.ErrForm
			if len(s+behind) > 1<<14 {
				want = api.ErrFull
			}
			checkNoModel(t, s+behind, want)
			checkNoModel(t, behind+s, want)
		}
	}
}

// P13.1: bytes of 2^14, and of one more.
func TestUnpackFull(t *testing.T) {
	whole, longer := spellModel(ofSize(t, 1<<14)), spellModel(ofSize(t, 30000))
	checkRead(t, whole, ofSize(t, 1<<14))
	checkNoModel(t, longer[:1<<14-1], api.ErrForm)
	checkNoModel(t, longer[:1<<14], api.ErrForm)
	checkNoModel(t, longer[:1<<14+1], api.ErrFull)
	checkNoModel(t, longer, api.ErrFull)
	checkNoModel(t, whole[:1<<14-1], api.ErrForm)
	checkNoModel(t, whole[:1<<14-1]+"\xff", api.ErrForm)
	checkNoModel(t, whole+"\x00", api.ErrFull)
	empty := spellModel(api.Model{})
	for _, s := range []string{"\x00", "\xff", "B", "BPM1", empty, "BPM1\x00\x40"} {
		s = x(s, 1<<15/len(s))
		checkNoModel(t, s[:1<<14-1], api.ErrForm)
		checkNoModel(t, s[:1<<14], api.ErrForm)
		checkNoModel(t, s[:1<<14+1], api.ErrFull)
		checkNoModel(t, x(s, 100), api.ErrFull)
		checkNoModel(t, empty+s[:1<<14-len(empty)], api.ErrForm)
		checkNoModel(t, empty+s[:1<<14-len(empty)+1], api.ErrFull)
	}
}

// P13.1: what stands ahead of a model.
func TestMagic(t *testing.T) {
	behind := x("\x00", 6)
	checkRead(t, "BPM1"+behind, api.Model{})
	for _, s := range []string{"", "B", "BPM", "BPM1", "BPM0", "bpm1", "BPM2", "SNP1", "PM1", " BPM1", "1MPB", "\x00BPM1", "BPM11", "BPM1BPM1", "\x42\x50\x4d\x31\x00", "BPM\xb1"} {
		checkNoModel(t, s, api.ErrForm)
		if s != "BPM1" {
			checkNoModel(t, s+behind, api.ErrForm)
		}
	}
}

// overlong answers a number's bytes with groups more than it needs.
func overlong(s string, groups int) string {
	last := s[len(s)-1] | 0x80
	return s[:len(s)-1] + string([]byte{last}) + x("\x80", groups-1) + "\x00"
}

// firstNumber cuts a piece behind the number that stands ahead in it.
func firstNumber(s string) (n, rest string) {
	for i := range len(s) {
		if s[i] < 128 {
			return s[:i+1], s[i+1:]
		}
	}
	return s, ""
}

// others answers what may not stand in a piece's place, whatever stands around it.
func others(p piece) []string {
	n, rest := firstNumber(p.s)
	var all []string
	if p.of == "number" || p.of == "count" || p.of == "name" || p.of == "text" || p.of == "flag" {
		for groups := 1; groups < 12; groups++ {
			all = append(all, overlong(n, groups)+rest)
		}
		for _, great := range []uint64{10001, 10002, 10128, 16383, 16384, 1 << 31, 1 << 32, 1<<32 + 1, 1 << 62, 1 << 63, 1<<64 - 1, 1<<64 - 256} {
			all = append(all, number(great)+rest)
		}
		all = append(all, x("\xff", 9)+"\x02"+rest, x("\x80", 9)+"\x02"+rest, x("\x80", 10)+"\x01"+rest, x("\xff", 100)+rest)
	}
	switch p.of {
	case "count":
		for _, n := range []uint64{65, 66, 100, 127, 128, 200, 256, 9999, 10000} {
			all = append(all, number(n))
		}
	case "name":
		for _, n := range []int{31, 32, 127, 128, 200, 10000} {
			all = append(all, number(uint64(n)), number(uint64(n))+x("n", n))
		}
	case "text":
		for _, n := range []int{2001, 2002, 10000} {
			all = append(all, number(uint64(n)), number(uint64(n))+x("0", n))
		}
	case "flag":
		for b := range 254 {
			all = append(all, string([]byte{byte(b + 2)}), string([]byte{byte(b + 2)})+rest)
		}
	case "type", "value":
		for b := range 256 {
			if b == 0 || b > api.TNone || p.of == "value" && b > api.VRec {
				all = append(all, string([]byte{byte(b)}), string([]byte{byte(b)})+p.s[1:])
			}
		}
		all = append(all, "\x05\xc9\x01", "\x06\xc9\x01", "\x06\x01\x1f", x("\x05\x01", 13), "\x06\x02\x01b\x02\x01a\x02", "\x06\x02\x01a\x02\x01a\x02", "\x06\x01\x01A\x02", "\x06\x01\x00\x02", "\x06\x80\x00")
		if p.of == "value" {
			all = append(all, "\x01\x02", "\x02\x80\x00", "\x03\x7f\xf8\x00\x00\x00\x00\x00\x01", "\x03\xff\xf8\x00\x00\x00\x00\x00\x00", "\x04\xc9\x01"+x("s", 201), "\x04\x81\x00s", "\x06\x02\x01b\x02\x00\x01a\x02\x00", "\x05\x80\x00")
		}
	}
	return all
}

// replacedIn answers the pieces' bytes with another piece in the place of one.
func replacedIn(all []piece, at int, other string) string {
	all = slices.Clone(all)
	all[at].s = other
	return joined(all)
}

// P13.1: numbers in more bytes than they need, or above 10000; lists, names and texts that are said to be too long; types and values that are none: in the place of each by itself.
func TestOtherPieces(t *testing.T) {
	done := map[string]int{}
	for _, m := range plainModels() {
		all := modelPieces(m)
		for at, p := range all {
			for _, other := range others(p) {
				checkNoModel(t, replacedIn(all, at, other), api.ErrForm)
				done[p.of]++
			}
		}
	}
	for _, of := range []string{"number", "count", "name", "text", "type", "value"} {
		if done[of] < 30 {
			t.Error("hardly any", of)
		}
	}
}

// P13.1: lists that are said to have more than there are bytes for, or than there are things.
func TestCounts(t *testing.T) {
	for _, m := range plainModels() {
		all := modelPieces(m)
		for at, p := range all {
			if p.of != "count" {
				continue
			}
			ahead := joined(all[:at])
			for n := range 70 {
				if said := ahead + number(uint64(n)); n > 0 {
					checkNoModel(t, said, api.ErrForm)
					checkByHand(t, said+x("\x00", 5))
				}
				checkByHand(t, replacedIn(all, at, number(uint64(n))))
			}
			for _, n := range []uint64{1 << 14, 1 << 31, 1 << 40, 1<<63 - 1, 1 << 63, 1<<64 - 1} {
				checkNoModel(t, ahead+number(n), api.ErrForm)
				checkNoModel(t, ahead+number(n)+x("\x00", 300), api.ErrForm)
			}
		}
	}
	for n := 1; n <= 64; n++ { // so many things, and room for all but the last one
		for list, thing := range map[string]string{"BPM1\x00": "\x01\x02", "BPM1\x00\x00": "\x01\x02", "BPM1\x00\x00\x00": "\x00\x00\x02\x02\x00", "BPM1\x00\x00\x00\x00": "\x00\x00\x02\x02", "BPM1\x00\x00\x00\x00\x00": x("\x00", 11)} {
			behind := x("\x00", 9-len(list))
			if !checkByHand(t, list+number(uint64(n))+x(thing, n)+behind) {
				t.Fatalf("%q of %d isn't read", list, n)
			}
			checkNoModel(t, list+number(uint64(n))+x(thing, n-1), api.ErrForm)
			checkNoModel(t, list+number(uint64(n+1))+x(thing, n), api.ErrForm)
		}
	}
}

// withText answers a model's bytes with a text in the place of an expression.
func withText(place int, text string) string {
	m := full()
	all := modelPieces(m)
	for at, p := range all {
		if p.of == "text" {
			if place == 0 {
				return replacedIn(all, at, number(uint64(len(text)))+text)
			}
			place--
		}
	}
	return ""
}

// P13.1: texts that are read as expressions, but aren't written so, and texts that are none.
func TestTexts(t *testing.T) {
	const places = 9 // five conditions, and two nodes with two more
	if withText(places-1, "0") == "" || withText(places, "0") != "" {
		t.Fatal("the test's own: other places")
	}
	for place := range places {
		for _, text := range []string{"", "0", "a", "(a+b)", "(a-(-1))", "{a:1,b:2}", "[]", "nan", "inf", "1p-1", `"a b"`, "(1).a", "a[0].b", "(!(a<b))"} {
			if !checkByHand(t, withText(place, text)) {
				t.Errorf("not read: %q", text)
			}
		}
		for _, text := range []string{
			"a+b", "(a)", "((a+b))", " a", "a ", "( a+b)", "(a +b)", "\ta", "a\n", " ", "{b:1,a:2}", "{ a:1}", "[1, 2]", "[1,2 ]", "01", "00", "2p0 ", "2p00", "02p0", "2p1p", "4p0", "1p+1", "2p0", "0p1", "-1", "(- 1)", "(-(1))", "a ? b : c", "a?b:c", "!a", "(1)", "1.a", "(a).b", "(\"a\")", `"\a"`, "(a+b)+c", "a&&b", "(true)", "len( a)", "(len(a))", "a[(0)]", "-inf", "-0p0", "(a+b)*c", "((a+b)+c)+d", "9007199254740992p0",
			"a+", "+", "(a", "a)", "()", ")", "[1,]", "{a:1,a:1}", "{a:1,}", "len", "len()", "true false", "a b", "A", "é", "\x00", "\"", "\"a", "'a'", "a.nan", "{nan:1}", "9223372036854775808", "(-9223372036854775808)", "1p", "1p10000", "a==b==c", "BPM1", x("v", 31), "\"" + x("s", 201) + "\"", x("(-", 12) + "1" + x(")", 12), x("-", 101) + "1", x("(", 200) + "1" + x(")", 200), "[" + x("1,", 199) + "1]",
		} {
			checkNoModel(t, withText(place, text), api.ErrForm)
		}
		long, _ := parse.Text(ofText(2000))
		longer, _ := parse.Text(ofText(2001))
		if !checkByHand(t, withText(place, long)) {
			t.Error("not read: 2000 bytes")
		}
		checkNoModel(t, withText(place, longer), api.ErrForm)
		checkNoModel(t, withText(place, "0"+x(" ", 1999)), api.ErrForm)
	}
}

// P13.1: the texts of all expressions that short texts say.
func TestShortTexts(t *testing.T) {
	signs := []string{"a", "1", "0", "p", "(", ")", "+", "-", "[", "]", "{", "}", ":", ",", "\"", " ", ".", "!"}
	count := map[bool]int{}
	var all func(text string, more int)
	all = func(text string, more int) {
		s := "BPM1\x00\x00\x00\x00\x00\x01\x00\x00\x00\x00" + number(uint64(len(text))) + text + x("\x00", 6)
		count[checkByHand(t, s)]++
		for _, sign := range signs {
			if more > 0 {
				all(text+sign, more-1)
			}
		}
	}
	all("", 4)
	if count[true] < 30 || count[false] < 10000 {
		t.Error("hardly any of one side:", count)
	}
}

// P13.1, P13.3: models' bytes in which up to four things are changed, and any bytes.
func TestAnyBytes(t *testing.T) {
	r := rand.New(rand.NewSource(3))
	count := map[bool]int{}
	for range 8000 {
		s := spellModel(anyModel(r))
		for range r.Intn(4) {
			s = turned(r, s)
		}
		count[checkByHand(t, s)]++
	}
	if count[true] < 2000 || count[false] < 2000 {
		t.Error("hardly any of one side:", count)
	}
	for range 5000 {
		b := make([]byte, r.Intn(40))
		for i := range b {
			b[i] = pick(r, 0, 0, 0, 1, 2, 5, 128, byte(r.Intn(256)))
		}
		checkByHand(t, "BPM1"+string(b))
		checkByHand(t, string(b))
	}
}

// P13.1: short rows of bytes that matter, behind what stands ahead of a model.
func TestShortModels(t *testing.T) {
	alphabet := "\x00\x01\x02\x40\x80"
	count := map[bool]int{}
	var all func(s string, more int)
	all = func(s string, more int) {
		count[checkByHand(t, s)]++
		for i := range len(alphabet) {
			if more > 0 {
				all(s+alphabet[i:i+1], more-1)
			}
		}
	}
	all("BPM1", 6)
	all("BPM1\x00\x00\x00", 6)
	if count[true] < 5 {
		t.Error("hardly any is read:", count)
	}
}
