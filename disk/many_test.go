package disk

import (
	"fmt"
	"math/rand"
	"testing"

	"bascule/api"
)

// A plain disk is one by the document's words, byte by byte.
type plain [][]byte

func (p plain) append(i int, s string) api.Errno {
	if i < 0 || i >= len(p) {
		return api.ErrRange
	}
	if len(p[i])+len(s) > 4000 {
		return api.ErrFull
	}
	for at := range len(s) {
		p[i] = append(p[i], s[at])
	}
	return api.OK
}

func (p plain) tear(i int, s string, keep int) api.Errno {
	if e := p.copied().append(i, s); e != api.OK {
		return e
	}
	for at := 0; at < keep && at < len(s); at++ {
		p[i] = append(p[i], s[at])
	}
	return api.OK
}

func (p plain) cut(i, n int) api.Errno {
	if i < 0 || i >= len(p) || n < 0 || n > len(p[i]) {
		return api.ErrRange
	}
	p[i] = p[i][:n]
	return api.OK
}

func (p plain) copied() plain {
	var all plain
	for _, bytes := range p {
		all = append(all, append([]byte(nil), bytes...))
	}
	return all
}

func (p plain) segments() []string {
	var all []string
	for _, bytes := range p {
		all = append(all, string(bytes))
	}
	return all
}

// A pair is a disk, and the plain one that it is to be.
type pair struct {
	d *Disk
	p plain
}

// anyNumber answers mostly one from 0 up to beyond n, at times any other one.
func anyNumber(r *rand.Rand, n int) int {
	switch r.Intn(10) {
	case 0:
		return int(r.Uint64())
	case 1:
		return r.Intn(8) - 8
	}
	return r.Intn(n + 2)
}

// anyLength answers few bytes mostly, at times about as many as fit, or far more.
func anyLength(r *rand.Rand, room int) int {
	switch r.Intn(8) {
	case 0:
		return r.Intn(2*full + 2)
	case 1:
		return max(0, room+r.Intn(5)-2)
	case 2:
		return r.Intn(2)
	}
	return r.Intn(40)
}

// act does any one thing to both, and wants them to answer the same; it tells what was done, and what came of it.
func (b pair) act(t *testing.T, r *rand.Rand) (what, came string) {
	t.Helper()
	i := anyNumber(r, len(b.p))
	length := anyLength(r, b.d.Room(i))
	s := row(r.Intn(256), length)
	var got, told api.Errno
	call := []string{"Append", "Tear", "Cut"}[r.Intn(3)]
	n := anyNumber(r, length)
	switch call {
	case "Append":
		got, told = b.d.Append(i, s), b.p.append(i, s)
	case "Tear":
		got, told = b.d.Tear(i, s, n), b.p.tear(i, s, n)
	case "Cut":
		n = anyCut(r, len(b.d.Read(i)))
		got, told = b.d.Cut(i, n), b.p.cut(i, n)
	}
	what = fmt.Sprint(call, " at ", i, ", ", length, " bytes, ", n)
	want(t, what, got, told)
	return what, fmt.Sprint(call, " ", got)
}

// anyCut answers mostly just less than there is, so that segments fill up, too.
func anyCut(r *rand.Rand, length int) int {
	if r.Intn(3) > 0 {
		return max(0, length-r.Intn(4))
	}
	return anyNumber(r, length)
}

// P17.1 to P17.4: whatever is done to many disks and their copies, they are what the document's words make of them.
func TestMany(t *testing.T) {
	came := map[string]int{}
	for seed := range 200 {
		r := rand.New(rand.NewSource(int64(seed)))
		n := 1 + r.Intn(most)
		all := []pair{{made(t, make([]string, n)...), make(plain, n)}}
		for range 200 {
			at := r.Intn(len(all))
			if r.Intn(20) == 0 && len(all) < 12 {
				all = append(all, pair{all[at].d.Copy(), all[at].p.copied()})
			}
			what, how := all[at].act(t, r)
			check(t, what, all[at].d, all[at].p.segments()...)
			came[how]++
			for i := range n {
				if all[at].d.Room(i) == 0 {
					came["full"]++
				}
			}
		}
		for at, b := range all {
			check(t, fmt.Sprint("seed ", seed, ", disk ", at), b.d, b.p.segments()...)
		}
	}
	for _, how := range []string{"Append 0", "Append 3", "Append 4", "Tear 0", "Tear 3", "Tear 4", "Cut 0", "Cut 3", "full"} {
		if came[how] < 100 {
			t.Errorf("%s came %d times", how, came[how])
		}
	}
}
