package journal

import (
	"fmt"
	"math"
	"testing"

	"bascule/api"
)

// A deed is one thing that is done to a journal: it answers what the journal is to be then, and whether it is torn.
type deed struct {
	what string
	do   func(t *testing.T, j *Journal, s state, label int) (state, bool)
}

func crash(keep int) func(*testing.T, *Journal, state, int) (state, bool) {
	return func(t *testing.T, j *Journal, s state, label int) (state, bool) {
		t.Helper()
		torn, _ := cut(t, j, s, label, tick(), keep)
		return torn, true
	}
}

func deeds() []deed {
	return []deed{
		{"Write", func(t *testing.T, j *Journal, s state, label int) (state, bool) {
			t.Helper()
			return written(t, j, s, label, pick(77)), false
		}},
		{"Crash, whole", crash(small)},
		{"Crash, amid", crash(9)},
		{"Crash, none", crash(0)},
		{"Recover", func(t *testing.T, j *Journal, s state, _ int) (state, bool) {
			t.Helper()
			checkRecs(t, "Recover", j.Recover(), s.recs)
			return s, false
		}},
		{"a crash and Recover", func(t *testing.T, j *Journal, s state, label int) (state, bool) {
			t.Helper()
			_, s = cut(t, j, s, label, pick(5), 16)
			checkRecs(t, "Recover", j.Recover(), s.recs)
			return s, false
		}},
		{"a kept one and Recover", func(t *testing.T, j *Journal, s state, label int) (state, bool) {
			t.Helper()
			_, s = cut(t, j, s, label, pick(5), 17)
			checkRecs(t, "Recover", j.Recover(), s.recs)
			return s, false
		}},
		{"full", func(t *testing.T, j *Journal, s state, label int) (state, bool) {
			t.Helper()
			return filledUp(t, j, s, label, 0), false
		}},
	}
}

// checkState wants a journal to be as it is to be, torn or not.
func checkState(t *testing.T, what string, j *Journal, s state, torn bool) {
	t.Helper()
	check(t, what, j, s)
	if torn {
		want(t, what+", torn", j.Write(0, tick()), api.ErrTorn)
		want(t, what+", torn", j.Crash(0, tick(), 0), api.ErrTorn)
		return
	}
	want(t, what+", not torn", j.Write(-1, tick()), api.ErrRange)
	want(t, what+", not torn", j.Crash(-1, tick(), 0), api.ErrRange)
}

// P18.3: a copy has the same, however many labels there are, and whatever was done ahead of it, and goes on as the other one would.
func TestCopy(t *testing.T) {
	for n := 1; n <= most; n++ {
		for label := range n {
			for _, d := range deeds() {
				j, s := some(t, n, label)
				s, torn := d.do(t, j, s, label)
				c := j.Copy()
				if c == nil || c == j {
					t.Fatal("no other one")
				}
				checkState(t, "copy behind "+d.what, c, s, torn)
				checkState(t, "copied behind "+d.what, j, s, torn)
				if !torn {
					goesOn(t, "copy behind "+d.what, c, s)
					goesOn(t, "copied behind "+d.what, j, s)
				}
			}
		}
	}
}

// P18.3: what is done to a journal is nothing to its copy, nor the other way round, one deed behind another one, also behind a copy of a copy.
func TestCopyApart(t *testing.T) {
	for _, n := range []int{1, 2, most} {
		for _, label := range []int{0, n - 1} {
			for _, first := range deeds() {
				for _, second := range deeds() {
					j, s := some(t, n, label)
					c := j.Copy()
					one, tornOne := first.do(t, j, s, label)
					checkState(t, "done first: "+first.what, j, one, tornOne)
					checkState(t, "its copy", c, s, false)
					cc := c.Copy()
					other, tornOther := second.do(t, c, s, label)
					checkState(t, "the copy: "+second.what, c, other, tornOther)
					checkState(t, "what was copied", j, one, tornOne)
					checkState(t, "the copy's copy", cc, s, false)
					goesOn(t, "the copy's copy", cc, s)
					checkState(t, "what was copied", j, one, tornOne)
					checkState(t, "the copy", c, other, tornOther)
				}
			}
		}
	}
}

// P18.3: a torn journal's copy is torn, and is recovered by itself, to the same; so is a copy of that one.
func TestCopyOfTorn(t *testing.T) {
	for _, keep := range keeps(small) {
		j, s := some(t, 3, 2)
		torn, s := cut(t, j, s, 1, tick(), keep)
		a := j.Copy()
		b := a.Copy()
		what := fmt.Sprint("keep ", keep)
		for _, each := range []*Journal{a, j, b} {
			checkTorn(t, what, each, torn)
		}
		checkRecovered(t, what, a, s)
		checkTorn(t, what+", what was copied", j, torn)
		checkTorn(t, what+", the copy's copy", b, torn)
		goesOn(t, what, a, s)
		checkRecovered(t, what+", what was copied", j, s)
		checkTorn(t, what+", the copy's copy", b, torn)
		checkRecovered(t, what+", the copy's copy", b, s)
		goesOn(t, what, b, s)
		goesOn(t, what, j, s)
	}
}

// P18.3: many copies, each a record further on than the one ahead.
func TestRowOfCopies(t *testing.T) {
	all, states := []*Journal{made(t, 2)}, []state{fresh(2)}
	for i := range 100 {
		next := all[i].Copy()
		states = append(states, written(t, next, states[i], i%2, pick(i)))
		all = append(all, next)
	}
	for i, j := range all {
		check(t, fmt.Sprint("copy ", i), j, states[i])
		goesOn(t, fmt.Sprint("copy ", i), j, states[i])
	}
}

// numbers are those of labels, and of bytes, that there may be, and others.
func numbers() []int {
	return append(nowhere(3), 0, 1, 2, 3, 7, small, full, full+1)
}

// P18.3: of no journal nothing is answered, whatever else is asked: ErrNil, ahead of all other errors.
func TestNil(t *testing.T) {
	var j *Journal
	for _, c := range append(append(refused(), tooLong()...), commands()...) {
		for _, label := range []int{0, 7, 8, -1, math.MaxInt, math.MinInt} {
			want(t, "Write", j.Write(label, c), api.ErrNil)
			want(t, "Crash", j.Crash(label, c, label), api.ErrNil)
		}
	}
	for _, label := range numbers() {
		for _, keep := range numbers() {
			want(t, fmt.Sprint("Crash at ", label, ", keep ", keep), j.Crash(label, tick(), keep), api.ErrNil)
		}
		if n := j.Size(label); n != 0 {
			t.Errorf("label %d has %d bytes", label, n)
		}
	}
	for range 2 {
		if list := j.Records(); len(list) != 0 {
			t.Error("records:", list)
		}
		if list := j.Recover(); len(list) != 0 {
			t.Error("recovered:", list)
		}
		if j.Copy() != nil {
			t.Error("a copy")
		}
	}
}

// Rule 1: a journal that New didn't make has no labels, and its calls end.
func TestZero(t *testing.T) {
	j := &Journal{}
	for _, each := range []*Journal{j, j.Copy()} {
		for _, label := range numbers() {
			for _, c := range []api.Cmd{tick(), {N: -1}, sized(longest+1, "Key")} {
				want(t, "Write", each.Write(label, c), api.ErrRange)
				want(t, "Crash", each.Crash(label, c, 3), api.ErrRange)
			}
		}
		check(t, "the zero one", each, state{})
		checkRecs(t, "the zero one", each.Recover(), nil)
		check(t, "the zero one, recovered", each, state{})
	}
}
