package journal

import (
	"fmt"
	"math/rand"
	"testing"

	"bascule/api"
	"bascule/pack"
)

// A plain journal is one by the document's words: its state, what a crash left besides, and whether it is torn.
type plain struct {
	state
	torn        bool
	label, left int // bytes of no record, at a label
}

// refuses answers the first error that applies to a command at a label.
func (p *plain) refuses(label int, c api.Cmd) api.Errno {
	s, e := pack.Cmd(c)
	switch {
	case p.torn:
		return api.ErrTorn
	case label < 0 || label >= len(p.sizes):
		return api.ErrRange
	case e != api.OK || len(s)+4 > 2000:
		return api.ErrForm
	case p.sizes[label]+len(s)+10 > 4000:
		return api.ErrFull
	}
	return api.OK
}

func (p *plain) write(label int, c api.Cmd) api.Errno {
	e := p.refuses(label, c)
	if e == api.OK {
		p.state = p.with(label, c)
	}
	return e
}

func (p *plain) crash(label int, c api.Cmd, keep int) api.Errno {
	e := p.refuses(label, c)
	if e != api.OK {
		return e
	}
	p.torn, p.label, p.left = true, label, kept(keep, length(c))
	p.state = p.withBytes(label, p.left)
	if keep >= length(c) {
		p.state, p.left = p.withRec(label, c), 0
	}
	return api.OK
}

func (p *plain) recover() []api.Rec {
	if p.torn {
		p.state = p.withBytes(p.label, -p.left)
	}
	p.torn, p.left = false, 0
	return p.recs
}

// A pair is a journal, and the plain one that it is to be.
type pair struct {
	j *Journal
	p *plain
}

func (b pair) copied() pair {
	p := *b.p
	return pair{b.j.Copy(), &p}
}

// anyNumber answers mostly one from 0 up to beyond n, at times any other one.
func anyNumber(r *rand.Rand, n int) int {
	switch r.Intn(12) {
	case 0:
		return int(r.Uint64())
	case 1:
		return r.Intn(8) - 8
	}
	return r.Intn(n + 2)
}

// anyCmd answers small commands mostly, at times such as are refused, or just about as great as the room, or as a record may be.
func anyCmd(r *rand.Rand, room int) api.Cmd {
	pickOf := func(all []api.Cmd) api.Cmd { return all[r.Intn(len(all))] }
	where := places()[r.Intn(3)]
	switch r.Intn(14) {
	case 0:
		return pickOf(refused())
	case 1:
		return sized(longest-3+r.Intn(6), where)
	case 2, 3, 4:
		return sized(50+r.Intn(1000), where)
	case 5, 6:
		return sized(max(50, room-2+r.Intn(5)), where)
	case 7:
		return pickOf(commands())
	case 8:
		return tick()
	}
	return pick(r.Intn(10001))
}

// act does any one thing to both, and wants them to answer the same; it tells what was done, and what came of it.
func (b pair) act(t *testing.T, r *rand.Rand) (what, came string) {
	t.Helper()
	label := anyNumber(r, len(b.p.sizes))
	c := anyCmd(r, full-b.j.Size(label))
	var got, told api.Errno
	call := []string{"Write", "Write", "Write", "Crash", "Recover"}[r.Intn(5)]
	keep := 0
	switch call {
	case "Write":
		got, told = b.j.Write(label, c), b.p.write(label, c)
	case "Crash":
		s, _ := pack.Cmd(c)
		keep = anyNumber(r, around+len(s))
		if r.Intn(3) == 0 {
			keep = around + len(s) - 1 + r.Intn(2)
		}
		got, told = b.j.Crash(label, c, keep), b.p.crash(label, c, keep)
	case "Recover":
		checkRecs(t, "Recover", b.j.Recover(), b.p.recover())
	}
	what = fmt.Sprint(call, " at ", label, ", keep ", keep, ", a command of the Kind ", c.Kind)
	want(t, what, got, told)
	return what, fmt.Sprint(call, " ", got)
}

// P18.1 to P18.4: whatever is done to many journals and their copies, they are what the document's words make of them.
func TestMany(t *testing.T) {
	came := map[string]int{}
	for seed := range 80 {
		r := rand.New(rand.NewSource(int64(seed)))
		n := 1 + r.Intn(most)
		all := []pair{{made(t, n), &plain{state: fresh(n)}}}
		for range 150 {
			at := r.Intn(len(all))
			if r.Intn(20) == 0 && len(all) < 8 {
				all = append(all, all[at].copied())
			}
			what, how := all[at].act(t, r)
			check(t, what, all[at].j, all[at].p.state)
			came[how]++
			for _, size := range all[at].p.sizes {
				if size == full {
					came["full"]++
				}
			}
			if all[at].p.torn && all[at].p.left == 0 {
				came["torn, without a piece"]++
			}
		}
		for at, b := range all {
			check(t, fmt.Sprint("seed ", seed, ", journal ", at), b.j, b.p.state)
		}
	}
	for _, how := range []string{"Write 0", "Write 3", "Write 4", "Write 5", "Write 14", "Crash 0", "Crash 3", "Crash 4", "Crash 5", "Crash 14", "Recover 0", "full", "torn, without a piece"} {
		if came[how] < 15 {
			t.Errorf("%s came %d times", how, came[how])
		}
	}
}
