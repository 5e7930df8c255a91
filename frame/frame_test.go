package frame

import (
	"bytes"
	"encoding/hex"
	"hash/crc32"
	"math"
	"math/rand"
	"slices"
	"strings"
	"testing"
	"unsafe"

	"bascule/api"
)

func x(s string, n int) string { return strings.Repeat(s, n) }

// raw answers the bytes that hexadecimal digits say.
func raw(digits string) string {
	b, err := hex.DecodeString(strings.ReplaceAll(digits, " ", ""))
	if err != nil {
		panic(err)
	}
	return string(b)
}

// noise answers n bytes, the same in each run.
func noise(r *rand.Rand, n int) string {
	b := make([]byte, n)
	r.Read(b)
	return string(b)
}

func turnBit(s string, bit int) string {
	b := []byte(s)
	b[bit/8] ^= 1 << (bit % 8)
	return string(b)
}

// divide answers the sum by the document's words: the remainder by the polynomial, bit by bit, begun with ones and turned at the end.
func divide(s string) uint32 {
	left := uint32(0xFFFFFFFF)
	for _, b := range []byte(s) {
		for bit := range 8 {
			odd := (left^uint32(b)>>bit)&1 == 1
			left >>= 1
			if odd {
				left ^= 0xEDB88320
			}
		}
	}
	return left ^ 0xFFFFFFFF
}

func sumBehind(s string, sum uint32) string {
	return s + string([]byte{byte(sum), byte(sum >> 8), byte(sum >> 16), byte(sum >> 24)})
}

// spell answers a payload with a length that is told and the right sum of both, whether that may be a frame or not.
func spell(told int, payload string) string {
	s := string([]byte{byte(told >> 8), byte(told)}) + payload
	return sumBehind(s, crc32.ChecksumIEEE([]byte(s)))
}

func spellFrame(payload string) string { return spell(len(payload), payload) }

// A reading is what Next answered, or is to answer.
type reading struct {
	payload string
	next    int
	e       api.Errno
}

func next(s string, at int) reading {
	payload, next, e := Next(s, at)
	return reading{payload, next, e}
}

// seek answers by hand what stands at a place of s.
func seek(s string, at int) reading {
	if at < 0 || at > len(s) {
		return reading{e: api.ErrRange}
	}
	torn := reading{e: api.ErrTorn}
	left := len(s) - at
	if left < 2 {
		return torn
	}
	n := int(s[at])*256 + int(s[at+1])
	if n == 0 || n > 2000 || left < 2+n+4 {
		return torn
	}
	sum := uint32(0)
	for i := range 4 {
		sum += uint32(s[at+2+n+i]) << (8 * i)
	}
	if crc32.ChecksumIEEE([]byte(s[at:at+2+n])) != sum {
		return torn
	}
	return reading{s[at+2 : at+2+n], at + 2 + n + 4, api.OK}
}

// seekAll answers by hand the frames from the beginning on.
func seekAll(s string) (payloads []string, good int) {
	for r := seek(s, 0); r.e == api.OK; r = seek(s, good) {
		payloads, good = append(payloads, r.payload), r.next
	}
	return payloads, good
}

func check(t *testing.T, s string, at int, want reading) {
	t.Helper()
	if got := next(s, at); got != want {
		t.Fatalf("%d bytes, %.40x.., at %d: %d bytes up to %d, error %d, not %d bytes up to %d, error %d", len(s), s, at, len(got.payload), got.next, got.e, len(want.payload), want.next, want.e)
	}
}

// beside are bytes that stand ahead of a frame, or behind it.
var beside = []string{"", "\x00", "\x01", "\xff", "\x00\x01", x("\x00", 7), spellFrame("q"), spellFrame("q")[:6], spell(0, ""), x("\xff", 2100)}

// checkFrame wants s to be a payload's frame, whatever stands ahead of it and behind it.
func checkFrame(t *testing.T, s, payload string) {
	t.Helper()
	for _, ahead := range beside {
		for _, behind := range beside {
			check(t, ahead+s+behind, len(ahead), reading{payload, len(ahead) + len(s), api.OK})
		}
	}
}

// checkTorn wants no frame to stand where s begins, whatever stands ahead of it.
func checkTorn(t *testing.T, s string) {
	t.Helper()
	for _, ahead := range beside {
		check(t, ahead+s, len(ahead), reading{e: api.ErrTorn})
	}
	if payloads, good := All(s); len(payloads) != 0 || good != 0 {
		t.Fatalf("%d bytes, %.40x..: %d frames up to %d, not none", len(s), s, len(payloads), good)
	}
}

// checkAll wants All to answer payloads and a place.
func checkAll(t *testing.T, s string, payloads []string, good int) {
	t.Helper()
	if got, at := All(s); !slices.Equal(got, payloads) || at != good {
		t.Fatalf("%d bytes, %.40x..: %d frames up to %d, not %d up to %d", len(s), s, len(got), at, len(payloads), good)
	}
}

// sizes are lengths on both sides of a byte's bound and at the ends of what a payload may have.
var sizes = []int{1, 2, 3, 4, 127, 128, 255, 256, 257, 511, 512, 1023, 1024, 1792, 1998, 1999, 2000}

// P6.1: sums that others have reckoned.
func TestSumKnown(t *testing.T) {
	for s, want := range map[string]uint32{
		"": 0, "123456789": 0xCBF43926, "a": 0xE8B7BE43, "abc": 0x352441C2, "\x00": 0xD202EF8D, "\x00\x00": 0x41D912FF, "\x00\x00\x00\x00": 0x2144DF1C, "\xff\xff\xff\xff": 0xFFFFFFFF,
		"\x00\x01a": 0xDCEFB99D, "The quick brown fox jumps over the lazy dog": 0x414FA339,
	} {
		if got := Sum(s); got != want {
			t.Errorf("%q: %08X, not %08X", s, got, want)
		}
	}
}

// P6.1: sums by the document's words, and by the library.
func TestSum(t *testing.T) {
	checkSum := func(s string) {
		t.Helper()
		if got, want := Sum(s), divide(s); got != want || got != crc32.ChecksumIEEE([]byte(s)) {
			t.Fatalf("%d bytes, %.40x..: %08X, not %08X", len(s), s, got, want)
		}
	}
	for a := range 256 {
		checkSum(string([]byte{byte(a)}))
		for b := range 256 {
			checkSum(string([]byte{byte(a), byte(b)}))
		}
	}
	r := rand.New(rand.NewSource(1))
	for n := range 400 {
		checkSum(noise(r, n))
		checkSum(x("\x00", n))
		checkSum(x("\xff", n))
	}
	for _, n := range []int{1999, 2000, 2001, 2002, 4000, 1 << 16, 1<<20 + 1} {
		checkSum(noise(r, n))
	}
}

// P6.1: the chapter's example.
func TestExample(t *testing.T) {
	frame, e := Make("a")
	if frame != raw("00 01 61 9D B9 EF DC") || e != api.OK {
		t.Fatalf("%x, %d", frame, e)
	}
	check(t, frame, 0, reading{"a", 7, api.OK})
}

// P6.1: frames in plain bytes: the sum takes the length in, its lowest byte stands first.
func TestMakeBytes(t *testing.T) {
	for payload, want := range map[string]string{
		"\x00":      "00 01 00 53 E8 5A E6",
		"abc":       "00 03 61 62 63 23 C0 F2 1E",
		"123456789": "00 09 31 32 33 34 35 36 37 38 39 AE B7 6F BA",
	} {
		frame, e := Make(payload)
		if frame != raw(want) || e != api.OK {
			t.Errorf("%q: %x, %d, not %s", payload, frame, e, want)
		}
	}
	frame, _ := Make(x("z", 2000))
	if len(frame) != 2006 || frame[:2] != "\x07\xd0" || frame[2:2002] != x("z", 2000) {
		t.Errorf("%d bytes: %.10x", len(frame), frame)
	}
}

// P6.1, P6.3: what is made is read, of each length that a payload may have.
func TestMakeSizes(t *testing.T) {
	r := rand.New(rand.NewSource(2))
	for n := 1; n <= 2000; n++ {
		for _, payload := range []string{noise(r, n), x("\x00", n), x("\xff", n)} {
			frame, e := Make(payload)
			if frame != spellFrame(payload) || e != api.OK {
				t.Fatalf("%d bytes: %.40x.., %d", n, frame, e)
			}
			check(t, frame, 0, reading{payload, len(frame), api.OK})
			check(t, "\x00"+frame+"\x00", 1, reading{payload, len(frame) + 1, api.OK})
		}
	}
	for _, n := range sizes {
		payload := noise(r, n)
		checkFrame(t, spellFrame(payload), payload)
	}
}

// P6.1: payloads that have no frame; among them those whose length is one in its two lowest bytes.
func TestMakeRefuses(t *testing.T) {
	for _, n := range []int{0, 2001, 2002, 2047, 2048, 4000, 32768, 65535, 65536, 65537, 65536 + 2000, 1 << 17, 1<<24 + 1} {
		for _, payload := range []string{x("\x00", n), x("a", n)} {
			if frame, e := Make(payload); frame != "" || e != api.ErrArg {
				t.Errorf("%d bytes: %.40x.., %d", n, frame, e)
			}
		}
	}
}

// P6.1: places that s doesn't have, ahead of all else.
func TestNextRange(t *testing.T) {
	for _, s := range append(beside, spellFrame("abc"), spellFrame(x("a", 2000)), spellFrame("a")+spellFrame("b")) {
		for _, at := range []int{-1, -2, -7, math.MinInt32, math.MinInt, len(s) + 1, len(s) + 2, len(s) + 7, math.MaxInt32, math.MaxInt - 1, math.MaxInt} {
			check(t, s, at, reading{e: api.ErrRange})
		}
		check(t, s, len(s), reading{e: api.ErrTorn})
	}
}

// P6.1: lengths that are told ahead, with just as many bytes and their sum: 1 to 2000 are a frame's alone.
func TestNextLengths(t *testing.T) {
	for told := range 1 << 16 {
		if told > 2100 && told%997 != 0 && told != 1<<16-1 {
			continue
		}
		payload := x("k", told)
		s := spell(told, payload)
		if told >= 1 && told <= 2000 {
			check(t, s, 0, reading{payload, told + 6, api.OK})
			continue
		}
		checkTorn(t, s)
		checkTorn(t, s+spellFrame("a"))
	}
}

// P6.1: the length that is told isn't that of the bytes that the sum is of.
func TestNextOtherLengths(t *testing.T) {
	for _, n := range sizes {
		for _, told := range []int{0, n - 1, n + 1, n + 2, n + 3, n + 4, n + 5, 2*n + 1, n + 256, n + 1<<15, 65535} {
			checkTorn(t, spell(told%(1<<16), x("k", n)))
		}
		if n>>8 != n&255 {
			checkTorn(t, spell(n>>8|n&255<<8, x("k", n))) // the lower byte first
		}
	}
}

// P6.1: sums of another kind are none.
func TestNextOtherSums(t *testing.T) {
	for _, n := range sizes {
		payload := x("k", n)
		s := spellFrame(payload)
		body, sum := s[:n+2], divide(s[:n+2])
		behind := []byte(s[n+2:])
		slices.Reverse(behind)
		checkTorn(t, body+string(behind)) // the highest byte first
		for _, other := range []uint32{0, 1, math.MaxUint32, ^sum, sum + 1, sum - 1, sum + 1<<8, sum + 1<<16, sum + 1<<24, divide(payload), divide(body[1:]), divide(payload + body[:2]), crc32.Checksum([]byte(body), crc32.MakeTable(crc32.Castagnoli)), divide(s)} {
			if other != sum {
				checkTorn(t, sumBehind(body, other))
			}
		}
	}
}

// P6.3: a frame that is cut off anywhere is none.
func TestNextCutOff(t *testing.T) {
	r := rand.New(rand.NewSource(3))
	for _, n := range sizes {
		for _, payload := range []string{noise(r, n), x("\x00", n), x("\xff", n)} {
			s := spellFrame(payload)
			for end := range len(s) {
				check(t, s[:end], 0, reading{e: api.ErrTorn})
				check(t, "\x00"+s[:end], 1, reading{e: api.ErrTorn})
			}
		}
	}
	for _, n := range []int{1, 2, 255, 256} {
		s := spellFrame(noise(r, n))
		for end := range len(s) {
			checkTorn(t, s[:end])
		}
	}
}

// P6.3: a frame of which a single bit behind the length was turned is none.
func TestNextTurned(t *testing.T) {
	r := rand.New(rand.NewSource(4))
	for _, payload := range []string{"a", "\x00", "ab", x("\x00", 4), noise(r, 255), noise(r, 256), x("\xff", 300), noise(r, 2000)} {
		s := spellFrame(payload)
		for bit := 16; bit < 8*len(s); bit++ {
			turned := turnBit(s, bit)
			check(t, turned, 0, reading{e: api.ErrTorn})
			if len(s) < 100 {
				checkTorn(t, turned)
				checkTorn(t, turned+spellFrame("a"))
			}
		}
		for bit := range 16 { // of the length: by hand
			turned := turnBit(s, bit) + x("\x00", 100)
			check(t, turned, 0, seek(turned, 0))
		}
	}
}

// P6.2: the examples that say most, by hand.
func TestAll(t *testing.T) {
	a, b, c := spellFrame("a"), spellFrame(x("b", 300)), spellFrame("\x00")
	checkAll(t, "", nil, 0)
	checkAll(t, a, []string{"a"}, 7)
	checkAll(t, a+a, []string{"a", "a"}, 14)
	checkAll(t, a+b+c, []string{"a", x("b", 300), "\x00"}, 7+306+7)
	checkAll(t, c+b+a, []string{"\x00", x("b", 300), "a"}, 7+306+7)
	for _, other := range []string{"\x00", "\x01", "\xff", "\x00\x01", "\x00\x01a", spell(0, ""), spell(2001, x("k", 2001)), x("\x00", 10), turnBit(a, 16), turnBit(b, 8*306-1), b[:305]} {
		checkAll(t, other, nil, 0)
		checkAll(t, other+a, nil, 0)
		checkAll(t, a+other, []string{"a"}, 7)
		checkAll(t, a+other+b, []string{"a"}, 7)
		checkAll(t, a+b+other+c, []string{"a", x("b", 300)}, 313)
	}
}

// P6.2, P6.3: frames behind one another are read in order, up to where they are cut off.
func TestAllCutOff(t *testing.T) {
	r := rand.New(rand.NewSource(5))
	for _, lengths := range [][]int{{1}, {1, 1}, {3, 1, 2}, {255, 256, 1}, {2000, 2000}, {1, 2000, 1}, {7, 7, 7, 7, 7, 7, 7, 7}} {
		var payloads []string
		ends := []int{0}
		s := ""
		for _, n := range lengths {
			payloads = append(payloads, noise(r, n))
			s += spellFrame(payloads[len(payloads)-1])
			ends = append(ends, len(s))
		}
		for end := range len(s) + 1 {
			whole := 0
			for whole < len(lengths) && ends[whole+1] <= end {
				whole++
			}
			checkAll(t, s[:end], payloads[:whole], ends[whole])
		}
	}
}

// P6.2, P6.3: a bit that was turned ends them ahead of its frame.
func TestAllTurned(t *testing.T) {
	payloads := []string{"a", "bcd", "\x00\x00", x("e", 20)}
	s := ""
	for i, payload := range payloads {
		from := len(s)
		s += spellFrame(payload)
		for bit := 8*from + 16; bit < 8*len(s); bit++ {
			turned := turnBit(s, bit) + spellFrame("behind")
			checkAll(t, turned, payloads[:i], from)
		}
	}
}

// P6.2: many frames, and what Next answers place by place.
func TestAllMany(t *testing.T) {
	var payloads []string
	s := ""
	for i := range 3000 {
		payloads = append(payloads, x(string([]byte{byte(i)}), 1+i%50))
		s += spellFrame(payloads[i])
	}
	checkAll(t, s, payloads, len(s))
	checkAll(t, s+"\x00", payloads, len(s))
	checkAll(t, s[:len(s)-1], payloads[:2999], len(s)-len(spellFrame(payloads[2999])))
	at := 0
	for i, payload := range payloads {
		got := next(s, at)
		if got.payload != payload || got.e != api.OK {
			t.Fatalf("frame %d: %v", i, got)
		}
		at = got.next
	}
}

// P6.1 to P6.3: rows of frames and other bytes, some turned or cut off, against the reader by hand, at each place.
func TestRows(t *testing.T) {
	r := rand.New(rand.NewSource(6))
	for range 1500 {
		s := ""
		for range r.Intn(6) {
			switch r.Intn(8) {
			case 0:
				s += noise(r, r.Intn(9))
			case 1:
				s += x("\x00", r.Intn(9))
			case 2:
				s += spell(r.Intn(12), noise(r, r.Intn(12)))
			default:
				s += spellFrame(noise(r, 1+r.Intn(30)))
			}
		}
		for range r.Intn(3) {
			if len(s) > 0 {
				s = turnBit(s, r.Intn(8*len(s)))
			}
		}
		s = s[:len(s)-r.Intn(len(s)/4+1)]
		for at := -2; at <= len(s)+2; at++ {
			check(t, s, at, seek(s, at))
		}
		payloads, good := seekAll(s)
		checkAll(t, s, payloads, good)
	}
}

// P6.1, P6.2: all short rows of bytes that a frame may begin with are none.
func TestShort(t *testing.T) {
	few := []string{"\x00", "\x01", "\x02", "\x07", "\xd0", "\xff"}
	var grow func(s string)
	grow = func(s string) {
		for at := range len(s) + 1 {
			check(t, s, at, reading{e: api.ErrTorn})
		}
		checkAll(t, s, nil, 0)
		if len(s) < 5 {
			for _, b := range few {
				grow(s + b)
			}
		}
	}
	grow("")
}

// sharesMemory tells whether two strings stand in the same bytes.
func sharesMemory(a, b string) bool {
	from := func(s string) uintptr { return uintptr(unsafe.Pointer(unsafe.StringData(s))) }
	return len(a) > 0 && len(b) > 0 && from(a) < from(b)+uintptr(len(b)) && from(b) < from(a)+uintptr(len(a))
}

// Rule 5: what is handed in stays, and isn't kept; no two answers share memory.
func TestNewMemory(t *testing.T) {
	given := []byte(spellFrame("one") + spellFrame(x("two", 200)) + spellFrame("3"))
	before := bytes.Clone(given)
	s := unsafe.String(&given[0], len(given)) // bytes that change once the calls have answered
	payload, _, _ := Next(s, 0)
	payloads, good := All(s)
	frame, _ := Make(s[2:5])
	if !bytes.Equal(given, before) {
		t.Fatal("what was handed in has changed")
	}
	answers := append(slices.Clone(payloads), payload, frame)
	for i, answer := range answers {
		if sharesMemory(answer, s) {
			t.Errorf("answer %d stands in what was handed in", i)
		}
		for _, other := range answers[:i] {
			if sharesMemory(answer, other) {
				t.Errorf("answer %d stands in another one", i)
			}
		}
	}
	clear(given)
	if payload != "one" || !slices.Equal(payloads, []string{"one", x("two", 200), "3"}) || good != len(before) || frame != spellFrame("one") {
		t.Errorf("%q, %d payloads up to %d, %x", payload, len(payloads), good, frame)
	}
}

// Rule 7: an answer hangs on nothing that was asked before.
func TestTwice(t *testing.T) {
	s := spellFrame("a") + spellFrame("b") + "\x00"
	for range 3 {
		checkAll(t, s, []string{"a", "b"}, 14)
		check(t, s, 7, reading{"b", 14, api.OK})
		check(t, s, 14, reading{e: api.ErrTorn})
		checkAll(t, "\x00", nil, 0)
		if Sum("123456789") != 0xCBF43926 || Sum("") != 0 {
			t.Fatal("sums")
		}
	}
}
