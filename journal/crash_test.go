package journal

import (
	"fmt"
	"math"
	"testing"

	"bascule/api"
)

// beyond are numbers of bytes that are none of a record's own places.
func beyond(n int) []int {
	return []int{math.MinInt, math.MinInt + 1, -1 << 32, 1 - 1<<32, -full, -n, -2, -1, n + 1, n + 2, 2 * n, longest, longest + 1, full, full + 1, 1 << 32, 1<<32 + 1, math.MaxInt - 1, math.MaxInt}
}

// keeps are all places at which a record of n bytes may be cut off, of a long one those about its ends, and what is beyond them.
func keeps(n int) []int {
	all := beyond(n)
	for k := range n + 1 {
		if k < 80 || k > n-20 || k%97 == 0 {
			all = append(all, k)
		}
	}
	return all
}

// kept answers how many bytes of a record stay.
func kept(keep, n int) int {
	return min(max(keep, 0), n)
}

// cut crashes amid a record, and answers what the journal is to be torn, and recovered.
func cut(t *testing.T, j *Journal, s state, label int, c api.Cmd, keep int) (torn, recovered state) {
	t.Helper()
	n := length(c)
	want(t, fmt.Sprint("Crash at ", label, ", keep ", keep, " of ", n), j.Crash(label, c, keep), api.OK)
	if keep >= n {
		s = s.with(label, c)
		return s, s
	}
	return s.withBytes(label, kept(keep, n)), s
}

// checkTorn wants a journal to be torn: nothing is written, whatever is asked.
func checkTorn(t *testing.T, what string, j *Journal, s state) {
	t.Helper()
	n := len(s.sizes)
	for _, label := range []int{0, n - 1, n, -1, math.MaxInt, math.MinInt} {
		for _, c := range []api.Cmd{tick(), sized(longest, "Key"), sized(longest+1, "V"), {Kind: -1}, {V: api.Value{Kind: 9}}} {
			want(t, what+": Write", j.Write(label, c), api.ErrTorn)
			for _, keep := range []int{math.MinInt, -1, 0, 1, small, math.MaxInt} {
				want(t, what+": Crash", j.Crash(label, c, keep), api.ErrTorn)
			}
		}
	}
	check(t, what, j, s)
}

// checkRecovered recovers a journal, and wants it to be as it is to be, and not torn.
func checkRecovered(t *testing.T, what string, j *Journal, s state) {
	t.Helper()
	checkRecs(t, what, j.Recover(), s.recs)
	check(t, what, j, s)
	goesOn(t, what, j.Copy(), s)
	checkRecs(t, what+", twice", j.Recover(), s.recs)
	check(t, what+", twice", j, s)
}

// P18.2, P18.4: the record at each byte, and beyond it: the journal is torn in each case, the record is there only if all of it stays, and what was written is read again.
func TestCrash(t *testing.T) {
	for _, n := range []int{1, 2, most} {
		for _, label := range []int{0, n - 1} {
			for _, bare := range []int{-1, label} {
				for _, c := range []api.Cmd{tick(), pick(10000), sized(60, "Key"), sized(300, "V"), sized(longest, "both")} {
					for _, keep := range keeps(length(c)) {
						what := fmt.Sprint("keep ", keep, " of ", length(c), " at ", label, " of ", n)
						j, s := some(t, n, bare)
						torn, s := cut(t, j, s, label, c, keep)
						check(t, what, j, torn)
						want(t, what, j.Write(n-1, tick()), api.ErrTorn)
						checkRecovered(t, what, j, s)
						goesOn(t, what, j, s)
					}
				}
			}
		}
	}
}

// P18.2: a torn journal refuses all, ahead of all other errors, whether the record stands there whole, or nothing of it does, and whether its labels are full or not.
func TestTorn(t *testing.T) {
	for _, n := range []int{1, 3, most} {
		for _, fill := range []bool{false, true} {
			for _, keep := range []int{math.MinInt, -1, 0, 1, 6, 13, small - 1, small, small + 1, math.MaxInt} {
				j, s := some(t, n, n-1)
				if fill {
					s = filledUp(t, j, s, n-1, small+3)
				}
				torn, s := cut(t, j, s, n-1, tick(), keep)
				what := fmt.Sprint("keep ", keep, " of ", n)
				for range 2 {
					checkTorn(t, what, j, torn)
				}
				checkRecovered(t, what, j, s)
			}
		}
	}
}

// P18.2: a crash with the errors of Write doesn't come about: nothing stands there, and the journal isn't torn.
func TestCrashRefused(t *testing.T) {
	j, s := some(t, 3, 1)
	s = filledUp(t, j, s, 1, small-1)
	for _, keep := range keeps(small) {
		want(t, "nowhere", j.Crash(3, tick(), keep), api.ErrRange)
		want(t, "nowhere", j.Crash(-1, tick(), keep), api.ErrRange)
		want(t, "none", j.Crash(0, api.Cmd{N: -1}, keep), api.ErrForm)
		want(t, "too long", j.Crash(2, sized(longest+1, "V"), keep), api.ErrForm)
		want(t, "full", j.Crash(1, tick(), keep), api.ErrFull)
		check(t, "refused", j, s)
		s = written(t, j, s, 0, pick(1))
	}
	checkRecovered(t, "refused", j, s)
}

// P18.2: a segment may be cut off at its very end, and filled up behind that.
func TestCrashAtFull(t *testing.T) {
	for _, size := range []int{small, 50, 1000, longest} {
		last := tick()
		if size > small {
			last = sized(size, "Key")
		}
		for _, keep := range keeps(size) {
			j, s := some(t, 2, 1)
			s = filledUp(t, j, s, 1, size)
			torn, s := cut(t, j, s, 1, last, keep)
			check(t, "torn at the end", j, torn)
			checkRecs(t, "recovered", j.Recover(), s.recs)
			if keep >= size {
				want(t, "full", j.Write(1, tick()), api.ErrFull)
			} else {
				s = written(t, j, s, 1, last)
			}
			check(t, "full", j, s)
			goesOn(t, "full", j, s)
		}
	}
}

// P18.2: to recover what isn't torn, also of a journal without records, changes nothing.
func TestRecoverWhole(t *testing.T) {
	for n := 1; n <= most; n++ {
		j, s := made(t, n), fresh(n)
		for i := range 20 {
			checkRecovered(t, fmt.Sprint(i, " records of ", n), j, s)
			s = written(t, j, s, i*3%n, pick(i*11))
		}
		checkRecovered(t, fmt.Sprint("of ", n), j, s)
	}
}

// P18.2: where no record is left, numbers begin with 1 again; where the first one stands there whole, they don't.
func TestNoneLeft(t *testing.T) {
	for n := 1; n <= most; n++ {
		for label := range n {
			for _, keep := range keeps(small) {
				j := made(t, n)
				torn, s := cut(t, j, fresh(n), label, tick(), keep)
				checkTorn(t, "the first one", j, torn)
				checkRecovered(t, "the first one", j, s)
				for range 3 {
					s = written(t, j, s, n-1, pick(3))
				}
				check(t, "behind the first one", j, s)
			}
		}
	}
}

// P18.2, P18.4: several crashes, at one label and at several, with records in between, and without: the numbers go on above all that stay.
func TestSeveralCrashes(t *testing.T) {
	for _, n := range []int{1, 2, most} {
		for step := range n {
			for between := range 3 {
				for first := range small + 2 {
					j, s := made(t, n), fresh(n)
					for i := range 12 {
						label := (i*step + step) % n
						var torn state
						torn, s = cut(t, j, s, label, pick(i), (first+i*7)%(small+2)-1)
						check(t, "torn", j, torn)
						want(t, "torn", j.Write(label, tick()), api.ErrTorn)
						checkRecs(t, "recovered", j.Recover(), s.recs)
						for range between {
							s = written(t, j, s, (label+1)%n, pick(100+i))
						}
						check(t, "in between", j, s)
					}
					checkRecovered(t, "behind all", j, s)
				}
			}
		}
	}
}

// P18.2, P18.4: a crash at one label is nothing to the records and the bytes of the others.
func TestCrashApart(t *testing.T) {
	for label := range most {
		for _, keep := range []int{-1, 0, 1, small / 2, small - 1, small} {
			j, s := made(t, most), fresh(most)
			for other := range most {
				if other != label {
					s = filledUp(t, j, s, other, other)
				}
			}
			s = written(t, j, s, label, sized(longest, "V"))
			torn, s := cut(t, j, s, label, tick(), keep)
			checkTorn(t, "beside full ones", j, torn)
			checkRecovered(t, "beside full ones", j, s)
		}
	}
}

// P18.2: commands of every kind, lost and kept.
func TestCrashOfEveryKind(t *testing.T) {
	for i, c := range commands() {
		n := length(c)
		for _, keep := range []int{-1, 0, 1, 2, 6, n / 2, n - 4, n - 1, n, n + 1} {
			j, s := some(t, 2, i%2)
			torn, s := cut(t, j, s, i%2, c, keep)
			check(t, "torn", j, torn)
			checkRecovered(t, "recovered", j, s)
		}
	}
}
