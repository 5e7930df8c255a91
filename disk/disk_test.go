package disk

import (
	"fmt"
	"math"
	"strings"
	"testing"

	"bascule/api"
)

const (
	most = 8    // segments of a disk
	full = 4000 // bytes of a segment
)

// row answers n bytes that tell their place, and which row it is.
func row(which, n int) string {
	b := make([]byte, n)
	for at := range b {
		b[at] = byte(which*31 + at*7 + at>>8)
	}
	return string(b)
}

// rows answers n rows of bytes, each of another length.
func rows(n int) []string {
	var all []string
	for i := range n {
		all = append(all, row(i, 5+3*i))
	}
	return all
}

// made answers a disk with these segments.
func made(t *testing.T, segments ...string) *Disk {
	t.Helper()
	d, e := New(len(segments))
	if e != api.OK {
		t.Fatalf("%d segments: error %d", len(segments), e)
	}
	for i, s := range segments {
		want(t, "append", d.Append(i, s), api.OK)
	}
	return d
}

// want wants just this error.
func want(t *testing.T, what string, got, e api.Errno) {
	t.Helper()
	if got != e {
		t.Fatalf("%s: error %d, not %d", what, got, e)
	}
}

// nowhere are the numbers that no segment of n has.
func nowhere(n int) []int {
	return []int{n, n + 1, most, most + 1, 255, 256, 1 << 16, 1 << 32, 1<<32 + n - 1, math.MaxInt - 1, math.MaxInt, -1, -2, -n, -most, -1 << 32, math.MinInt + 1, math.MinInt}
}

// check wants a disk to have just these segments, with just these bytes.
func check(t *testing.T, what string, d *Disk, segments ...string) {
	t.Helper()
	for i, s := range segments {
		if got := d.Read(i); got != s {
			t.Fatalf("%s: segment %d has %d bytes, %.20x.., not %d, %.20x..", what, i, len(got), got, len(s), s)
		}
		if got := d.Room(i); got != full-len(s) {
			t.Fatalf("%s: segment %d has room for %d bytes, not %d", what, i, got, full-len(s))
		}
	}
	for _, i := range nowhere(len(segments)) {
		if got, room := d.Read(i), d.Room(i); got != "" || room != 0 {
			t.Fatalf("%s: segment %d, which isn't there, has %d bytes and room for %d", what, i, len(got), room)
		}
	}
}

// P17.1, P17.2: the chapter's example.
func TestExample(t *testing.T) {
	d, e := New(1)
	want(t, "New(1)", e, api.OK)
	want(t, "Append", d.Append(0, "abc"), api.OK)
	want(t, "Tear", d.Tear(0, "defg", 2), api.OK)
	if got := d.Read(0); got != "abcde" {
		t.Errorf("read %q", got)
	}
	want(t, "Cut", d.Cut(0, 3), api.OK)
	if got, room := d.Read(0), d.Room(0); got != "abc" || room != 3997 {
		t.Errorf("read %q, room %d", got, room)
	}
}

// P17.1: n segments, numbered from 0 on, without bytes; each takes bytes, and those beside them don't.
func TestNew(t *testing.T) {
	for n := 1; n <= most; n++ {
		d, e := New(n)
		want(t, fmt.Sprint("New of ", n), e, api.OK)
		segments := make([]string, n)
		check(t, fmt.Sprint("new one of ", n), d, segments...)
		for i := range n {
			segments[i] = row(i, i+1)
			want(t, fmt.Sprint("Append at ", i, " of ", n), d.Append(i, segments[i]), api.OK)
			check(t, fmt.Sprint("one of ", n), d, segments...)
		}
		for i := n; i <= most; i++ {
			want(t, fmt.Sprint("Append at ", i, " of ", n), d.Append(i, "a"), api.ErrRange)
		}
		check(t, fmt.Sprint("one of ", n), d, segments...)
	}
}

// P17.1: no disk of another number of segments.
func TestNewOfNone(t *testing.T) {
	for _, n := range []int{0, 9, 10, 16, 255, 256, 257, 1<<16 + 1, 1 << 31, 1 << 32, 1<<32 + 1, 1<<32 + 8, math.MaxInt - 1, math.MaxInt, -1, -2, -8, -255, -1 << 32, 1 - 1<<32, math.MinInt, math.MinInt + 1, math.MinInt + 8} {
		if d, e := New(n); d != nil || e != api.ErrArg {
			t.Errorf("New(%d): %v, error %d", n, d, e)
		}
	}
}

// Rule 7: disks know nothing of each other.
func TestDisksApart(t *testing.T) {
	a, b := made(t, "a", "b"), made(t, "c", "d")
	want(t, "Append", a.Append(0, "e"), api.OK)
	want(t, "Tear", a.Tear(1, "fg", 1), api.OK)
	want(t, "Cut", b.Cut(0, 0), api.OK)
	check(t, "the one", a, "ae", "bf")
	check(t, "the other one", b, "", "d")
	check(t, "a new one", made(t, "", ""), "", "")
}

// P17.1: bytes stand behind those that were there.
func TestAppend(t *testing.T) {
	for n := 1; n <= most; n++ {
		segments := rows(n)
		for i := range n {
			d := made(t, segments...)
			bytes := segments[i]
			for _, s := range []string{"a", "", "bc", "", row(9, 700), "\x00", "\xff", row(10, 1)} {
				want(t, fmt.Sprint("Append at ", i), d.Append(i, s), api.OK)
				bytes += s
				check(t, fmt.Sprint("behind ", i), d, with(segments, i, bytes)...)
			}
		}
	}
}

// with answers segments with another one at a place.
func with(segments []string, i int, s string) []string {
	all := append([]string(nil), segments...)
	all[i] = s
	return all
}

// P17.1: bytes of every kind, by themselves, behind one another and beside one another.
func TestEveryByte(t *testing.T) {
	all := ""
	d := made(t, "", "")
	for b := range 256 {
		one := string([]byte{byte(b)})
		want(t, "Append", d.Append(0, one), api.OK)
		all += one
		check(t, fmt.Sprint("up to ", b), d, all, "")
		check(t, fmt.Sprint("alone: ", b), made(t, "", one), "", one)
		for _, other := range []byte{0, 1, 10, 127, 128, 194, 255, byte(b)} {
			pair := string([]byte{byte(b), other})
			want(t, "Append", d.Append(1, pair), api.OK)
			check(t, fmt.Sprint("a pair of ", b), d, all, pair)
			want(t, "Cut", d.Cut(1, 1), api.OK)
			check(t, fmt.Sprint("of a pair of ", b), d, all, one)
			want(t, "Tear", d.Tear(1, pair, 1), api.OK)
			check(t, fmt.Sprint("again of a pair of ", b), d, all, one+one)
			want(t, "Cut", d.Cut(1, 0), api.OK)
		}
	}
	want(t, "Append", d.Append(1, all), api.OK)
	check(t, "all at once", d, all, all)
}

// lengths are those about which something may turn.
var lengths = []int{0, 1, 2, 3, 7, 255, 256, 257, 1999, 2000, 2001, 3743, 3744, 3745, 3997, 3998, 3999, 4000, 4001, 4002, 4096, 8000, 65535, 65536, 1 << 17}

// P17.1: a segment has at most 4000 bytes, in two parts of any lengths, at the first and the last segment; where they don't fit, it stays.
func TestFull(t *testing.T) {
	for _, n := range []int{1, 2, most} {
		for _, i := range []int{0, n - 1} {
			for _, a := range lengths {
				if a > full {
					continue
				}
				for _, b := range lengths {
					segments := with(rows(n), i, row(1, a))
					d := made(t, segments...)
					what := fmt.Sprint(b, " bytes behind ", a, " at ", i, " of ", n)
					if a+b > full {
						want(t, what, d.Append(i, row(2, b)), api.ErrFull)
						check(t, what, d, segments...)
						continue
					}
					want(t, what, d.Append(i, row(2, b)), api.OK)
					check(t, what, d, with(segments, i, segments[i]+row(2, b))...)
				}
			}
		}
	}
}

// P17.1: in several parts a segment is filled just up to 4000 bytes; no bytes fit at a full one, too.
func TestFullInParts(t *testing.T) {
	for _, part := range []int{1, 2, 3, 7, 16, 399, 400, 1000, 1333, 2000, 3999, 4000} {
		d, bytes := made(t, "", ""), ""
		for len(bytes)+part <= full {
			s := row(len(bytes), part)
			want(t, fmt.Sprint("parts of ", part), d.Append(1, s), api.OK)
			bytes += s
		}
		rest := full - len(bytes)
		want(t, fmt.Sprint("one part of ", part, " more"), d.Append(1, row(3, part)), api.ErrFull)
		want(t, fmt.Sprint("one byte more than ", rest), d.Append(1, row(3, rest+1)), api.ErrFull)
		check(t, fmt.Sprint("parts of ", part), d, "", bytes)
		want(t, fmt.Sprint("the rest of ", rest), d.Append(1, row(4, rest)), api.OK)
		for range 2 {
			check(t, fmt.Sprint("full, parts of ", part), d, "", bytes+row(4, rest))
			want(t, "no bytes at a full one", d.Append(1, ""), api.OK)
			want(t, "a byte at a full one", d.Append(1, "a"), api.ErrFull)
			want(t, "no bytes at a full one, torn", d.Tear(1, "", 1), api.OK)
			want(t, "a byte at a full one, torn", d.Tear(1, "a", 0), api.ErrFull)
		}
	}
}

// P17.1, P17.2: where there is no such segment, it is ErrRange, whether the bytes fit anywhere or not, and whatever else is asked.
func TestNowhere(t *testing.T) {
	for n := 1; n <= most; n++ {
		for _, segments := range [][]string{make([]string, n), rows(n), repeated(row(1, full), n)} {
			d := made(t, segments...)
			for _, i := range nowhere(n) {
				for _, b := range lengths {
					want(t, fmt.Sprint(b, " bytes at ", i, " of ", n), d.Append(i, row(2, b)), api.ErrRange)
					want(t, fmt.Sprint(b, " bytes torn at ", i, " of ", n), d.Tear(i, row(2, b), b/2), api.ErrRange)
				}
				for _, k := range keeps(9) {
					want(t, fmt.Sprint("keep ", k, " at ", i, " of ", n), d.Tear(i, "some bytes", k), api.ErrRange)
					want(t, fmt.Sprint("keep ", k, " of none at ", i, " of ", n), d.Tear(i, "", k), api.ErrRange)
					want(t, fmt.Sprint("keep ", k, " of too many at ", i, " of ", n), d.Tear(i, row(1, full+1), k), api.ErrRange)
					want(t, fmt.Sprint("cut to ", k, " at ", i, " of ", n), d.Cut(i, k), api.ErrRange)
				}
			}
			check(t, fmt.Sprint("of ", n), d, segments...)
		}
	}
}

// repeated answers n segments alike.
func repeated(s string, n int) []string {
	var all []string
	for range n {
		all = append(all, s)
	}
	return all
}

// keeps are numbers about a length, and far from it.
func keeps(length int) []int {
	return []int{math.MinInt, math.MinInt + 1, -1 << 32, 1 - 1<<32, -full - 1, -full, -length - 1, -length, -2, -1, 0, 1, 2, length / 2, length - 1, length, length + 1, 2 * length, full - 1, full, full + 1, 1 << 32, 1<<32 + 1, math.MaxInt - 1, math.MaxInt}
}

// P17.1: of what is torn the first bytes stand there, wherever it is cut off, at the first and the last segment.
func TestTear(t *testing.T) {
	for _, n := range []int{1, 3, most} {
		for _, i := range []int{0, n - 1} {
			for _, a := range []int{0, 1, 5, 256, 3990} {
				for b := range 11 {
					for _, k := range keeps(b) {
						segments := with(rows(n), i, row(1, a))
						d := made(t, segments...)
						s := row(2, b)
						what := fmt.Sprint("keep ", k, " of ", b, " behind ", a, " at ", i, " of ", n)
						want(t, what, d.Tear(i, s, k), api.OK)
						check(t, what, d, with(segments, i, segments[i]+s[:kept(k, b)])...)
					}
				}
			}
		}
	}
}

// kept answers how many bytes of a write stay.
func kept(keep, length int) int {
	switch {
	case keep < 0:
		return 0
	case keep > length:
		return length
	}
	return keep
}

// P17.1: a long write is cut off at each place.
func TestTearEverywhere(t *testing.T) {
	s := row(3, full)
	d := made(t, "", "a")
	for k := range full + 2 {
		want(t, fmt.Sprint("keep ", k), d.Tear(0, s, k), api.OK)
		check(t, fmt.Sprint("keep ", k), d, s[:min(k, full)], "a")
		want(t, "Cut", d.Cut(0, 0), api.OK)
	}
}

// P17.1: what is torn has the errors of the whole write, however few bytes of it would stay.
func TestTearFull(t *testing.T) {
	for _, a := range lengths {
		if a > full {
			continue
		}
		for _, more := range []int{1, 2, full, full + 1, 1 << 16} {
			segments := []string{"x", row(1, a)}
			d := made(t, segments...)
			length := full - a + more
			for _, k := range append(keeps(length), full-a, full-a-1, full-a+1) {
				what := fmt.Sprint("keep ", k, " of ", length, " behind ", a)
				want(t, what, d.Tear(1, row(2, length), k), api.ErrFull)
				check(t, what, d, segments...)
			}
		}
		d := made(t, "x", row(1, a))
		want(t, "just so many", d.Tear(1, row(2, full-a), full), api.OK)
		check(t, "just so many", d, "x", row(1, a)+row(2, full-a))
	}
}

// P17.1: behind what was torn, or cut, more is written, and the room is that behind the bytes that stayed.
func TestWriteBehind(t *testing.T) {
	d := made(t, "", "")
	want(t, "Tear", d.Tear(0, "abcdef", 3), api.OK)
	want(t, "Append", d.Append(0, "gh"), api.OK)
	check(t, "behind a Tear", d, "abcgh", "")
	want(t, "Tear", d.Tear(0, row(1, full-5), 0), api.OK)
	want(t, "Tear", d.Tear(0, "ij", -1), api.OK)
	want(t, "Tear", d.Tear(0, "kl", 1), api.OK)
	check(t, "behind several", d, "abcghk", "")
	want(t, "Cut", d.Cut(0, 2), api.OK)
	want(t, "Append", d.Append(0, "\x00c"), api.OK)
	check(t, "behind a Cut", d, "ab\x00c", "")
	want(t, "Cut", d.Cut(0, 0), api.OK)
	want(t, "too many", d.Append(0, row(1, full+1)), api.ErrFull)
	want(t, "Append", d.Append(0, row(1, full)), api.OK)
	want(t, "Cut", d.Cut(0, full-1), api.OK)
	want(t, "too many", d.Append(0, "ab"), api.ErrFull)
	want(t, "too many", d.Tear(0, "ab", 1), api.ErrFull)
	want(t, "Append", d.Append(0, "z"), api.OK)
	check(t, "full again", d, row(1, full-1)+"z", "")
	want(t, "Cut", d.Cut(0, full), api.OK)
	check(t, "cut to all", d, row(1, full-1)+"z", "")
}

// P17.2: a segment's first bytes are left; of more than it has, or of fewer than none, nothing is cut.
func TestCut(t *testing.T) {
	for _, n := range []int{1, 2, most} {
		for _, i := range []int{0, n - 1} {
			for _, length := range []int{0, 1, 2, 3, 9, 255, 256, 3999, 4000} {
				for _, k := range keeps(length) {
					segments := with(rows(n), i, row(1, length))
					d := made(t, segments...)
					what := fmt.Sprint("cut ", length, " to ", k, " at ", i, " of ", n)
					if k < 0 || k > length {
						want(t, what, d.Cut(i, k), api.ErrRange)
						check(t, what, d, segments...)
						continue
					}
					want(t, what, d.Cut(i, k), api.OK)
					check(t, what, d, with(segments, i, segments[i][:k])...)
					want(t, what+", one more than is left", d.Cut(i, k+1), api.ErrRange)
					check(t, what, d, with(segments, i, segments[i][:k])...)
				}
			}
		}
	}
}

// P17.2: what was cut doesn't come back, by as many bytes as it was cut at a time.
func TestCutByAndBy(t *testing.T) {
	s := row(5, full)
	d := made(t, "a", s)
	for left := full; left >= 0; left -= 1 + left%7 {
		want(t, fmt.Sprint("cut to ", left), d.Cut(1, left), api.OK)
		check(t, fmt.Sprint("cut to ", left), d, "a", s[:left])
	}
	want(t, "Cut", d.Cut(1, 0), api.OK)
	want(t, "cut of no bytes", d.Cut(1, 1), api.ErrRange)
	want(t, "Append", d.Append(1, strings.Repeat("\x00", 4)), api.OK)
	check(t, "other bytes", d, "a", "\x00\x00\x00\x00")
}

// P17.4: what is done to a segment, whether it may be or not, is nothing to the others.
func TestSegmentsApart(t *testing.T) {
	for n := 2; n <= most; n++ {
		for i := range n {
			for _, segments := range [][]string{make([]string, n), rows(n), repeated(row(1, full), n), repeated(row(2, 9), n)} {
				d := made(t, segments...)
				bytes := segments[i]
				if d.Append(i, "abc") == api.OK {
					bytes += "abc"
				}
				check(t, "Append", d, with(segments, i, bytes)...)
				if d.Tear(i, "def", 2) == api.OK {
					bytes += "de"
				}
				check(t, "Tear", d, with(segments, i, bytes)...)
				want(t, "too many", d.Append(i, row(1, full+1)), api.ErrFull)
				check(t, "too many", d, with(segments, i, bytes)...)
				want(t, "beyond", d.Cut(i, full+1), api.ErrRange)
				check(t, "beyond", d, with(segments, i, bytes)...)
				want(t, "Cut", d.Cut(i, len(bytes)/2), api.OK)
				check(t, "Cut", d, with(segments, i, bytes[:len(bytes)/2])...)
				want(t, "Cut", d.Cut(i, 0), api.OK)
				check(t, "Cut", d, with(segments, i, "")...)
				want(t, "Append", d.Append(i, row(7, full)), api.OK)
				check(t, "Append", d, with(segments, i, row(7, full))...)
			}
		}
	}
}
