package disk

import (
	"fmt"
	"math"
	"testing"

	"bascule/api"
)

// A deed is one thing that is done to a segment, and what it makes of its bytes.
type deed struct {
	what string
	do   func(d *Disk, i int) api.Errno
	made func(bytes string) string
}

func deeds() []deed {
	return []deed{
		{"Append", func(d *Disk, i int) api.Errno { return d.Append(i, "abc") }, func(bytes string) string { return bytes + "abc" }},
		{"Tear", func(d *Disk, i int) api.Errno { return d.Tear(i, "defg", 2) }, func(bytes string) string { return bytes + "de" }},
		{"Cut", func(d *Disk, i int) api.Errno { return d.Cut(i, 3) }, func(bytes string) string { return bytes[:3] }},
		{"Cut to none", func(d *Disk, i int) api.Errno { return d.Cut(i, 0) }, func(string) string { return "" }},
		{"other bytes", func(d *Disk, i int) api.Errno { d.Cut(i, 1); return d.Append(i, "\x00") }, func(bytes string) string { return bytes[:1] + "\x00" }},
		{"full", func(d *Disk, i int) api.Errno { return d.Append(i, row(3, d.Room(i))) }, func(bytes string) string { return bytes + row(3, full-len(bytes)) }},
	}
}

// P17.3: a copy has the same, however many segments there are, and whatever was done ahead of it.
func TestCopy(t *testing.T) {
	for n := 1; n <= most; n++ {
		for _, segments := range [][]string{make([]string, n), rows(n), repeated(row(1, full), n)} {
			d := made(t, segments...)
			c := d.Copy()
			if c == nil || c == d {
				t.Fatal("no other one")
			}
			check(t, fmt.Sprint("copy of ", n), c, segments...)
			check(t, fmt.Sprint("copied of ", n), d, segments...)
			for _, i := range nowhere(n) {
				want(t, "Append to a copy", c.Append(i, ""), api.ErrRange)
				want(t, "Cut of a copy", c.Cut(i, 0), api.ErrRange)
			}
		}
	}
	for _, done := range deeds() {
		d := made(t, rows(3)...)
		want(t, done.what, done.do(d, 1), api.OK)
		check(t, "copy behind "+done.what, d.Copy(), with(rows(3), 1, done.made(rows(3)[1]))...)
	}
}

// P17.3: what is done to a disk is nothing to its copy, nor the other way round, one deed behind another one, at each segment.
func TestCopyApart(t *testing.T) {
	for n := 1; n <= most; n++ {
		for i := range n {
			for _, first := range deeds() {
				for _, second := range deeds() {
					segments := rows(n)
					d := made(t, segments...)
					c := d.Copy()
					want(t, first.what, first.do(d, i), api.OK)
					one := with(segments, i, first.made(segments[i]))
					check(t, "done ahead: "+first.what, d, one...)
					check(t, "its copy", c, segments...)
					want(t, second.what, second.do(c, i), api.OK)
					check(t, "the copy: "+second.what, c, with(segments, i, second.made(segments[i]))...)
					check(t, "what was copied", d, one...)
				}
			}
		}
	}
}

// P17.3: copies of a copy know nothing of each other either, and nothing of what became of those ahead.
func TestCopyOfCopy(t *testing.T) {
	for _, first := range deeds() {
		for _, second := range deeds() {
			segments := rows(4)
			a := made(t, segments...)
			b := a.Copy()
			want(t, first.what, first.do(b, 2), api.OK)
			c := b.Copy()
			d := b.Copy()
			want(t, second.what, second.do(c, 0), api.OK)
			want(t, second.what, second.do(a, 3), api.OK)
			one := with(segments, 2, first.made(segments[2]))
			check(t, "the first one", a, with(segments, 3, second.made(segments[3]))...)
			check(t, "its copy", b, one...)
			check(t, "the copy's copy", c, with(one, 0, second.made(one[0]))...)
			check(t, "another copy of it", d, one...)
		}
	}
}

// P17.3: many copies, each a little further on than the one ahead.
func TestRowOfCopies(t *testing.T) {
	all := []*Disk{made(t, "", "")}
	for i := range 300 {
		next := all[i].Copy()
		want(t, "Append", next.Append(i%2, row(i, 7)), api.OK)
		all = append(all, next)
	}
	segments := []string{"", ""}
	for i, d := range all {
		check(t, fmt.Sprint("copy ", i), d, segments...)
		segments = with(segments, i%2, segments[i%2]+row(i, 7))
	}
}

// numbers are those of segments, and of bytes, that there may be, and others.
func numbers() []int {
	return append(nowhere(3), 0, 1, 2, 3, 7, full, full+1)
}

// P17.3: of no disk nothing is answered, whatever else is asked: ErrNil, ahead of all other errors.
func TestNil(t *testing.T) {
	var d *Disk
	for _, i := range numbers() {
		for _, n := range numbers() {
			for _, s := range []string{"", "a", row(1, full), row(1, full+1)} {
				want(t, fmt.Sprint("Tear at ", i, ", keep ", n), d.Tear(i, s, n), api.ErrNil)
				want(t, fmt.Sprint("Append at ", i), d.Append(i, s), api.ErrNil)
			}
			want(t, fmt.Sprint("Cut at ", i, " to ", n), d.Cut(i, n), api.ErrNil)
		}
		if s, n := d.Read(i), d.Room(i); s != "" || n != 0 {
			t.Errorf("at %d: %q, room %d", i, s, n)
		}
	}
	if d.Copy() != nil {
		t.Error("a copy")
	}
}

// Rule 1: a disk that New didn't make has no segments, and its calls end.
func TestZero(t *testing.T) {
	d := &Disk{}
	for _, i := range append(numbers(), math.MaxInt32) {
		want(t, "Append", d.Append(i, ""), api.ErrRange)
		want(t, "Tear", d.Tear(i, "a", 1), api.ErrRange)
		want(t, "Cut", d.Cut(i, 0), api.ErrRange)
	}
	for _, i := range []int{0, 1, most - 1} {
		if s, n := d.Read(i), d.Room(i); s != "" || n != 0 {
			t.Errorf("at %d: %q, room %d", i, s, n)
		}
	}
	check(t, "the zero one", d)
	check(t, "its copy", d.Copy())
}
