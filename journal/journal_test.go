package journal

import (
	"fmt"
	"math"
	"slices"
	"strings"
	"testing"

	"bascule/api"
	"bascule/pack"
	"bascule/value"
)

const (
	most    = 8    // labels of a journal
	full    = 4000 // bytes of a segment
	longest = 2006 // bytes of a frame
	around  = 10   // bytes of a record that aren't its command's: a length of two, a number of four, a sum of four
	small   = 17   // bytes of a tick's record
)

func tick() api.Cmd { return api.Cmd{Kind: api.CTick} }

// pick is a command that tells which one it is, of as many bytes as a tick up to 127, one more up to 10000.
func pick(n int) api.Cmd { return api.Cmd{Kind: api.CPick, N: n} }

func num(n int64) api.Value   { return api.Value{Kind: api.VInt, N: n} }
func flo(f float64) api.Value { return api.Value{Kind: api.VFloat, F: f} }
func str(s string) api.Value  { return api.Value{Kind: api.VStr, S: s} }

func list(items ...api.Value) api.Value { return api.Value{Kind: api.VList, Items: items} }

// filled answers a list whose bytes are n, of texts that tell their place.
func filled(n int) api.Value {
	const most = 129 // bytes of a text whose length is one byte
	rest := n - 2
	var items []api.Value
	for pieces := (rest + most - 1) / most; pieces > 0; pieces-- {
		piece := rest / pieces
		items = append(items, str(strings.Repeat(string(rune('a'+pieces%26)), piece-2)))
		rest -= piece
	}
	return list(items...)
}

// sized answers a command whose record has n bytes, in its Key, its V, or both.
func sized(n int, where string) api.Cmd {
	rest := n - small
	switch where {
	case "Key":
		return api.Cmd{Kind: api.CDeliver, Key: filled(rest)}
	case "V":
		return api.Cmd{Kind: api.CComplete, V: filled(rest)}
	}
	return api.Cmd{Kind: api.CDeliver, Key: filled(rest / 2), V: filled(rest - rest/2)}
}

func places() []string { return []string{"Key", "V", "both"} }

// length answers how many bytes a command's record has.
func length(c api.Cmd) int {
	s, e := pack.Cmd(c)
	if e != api.OK {
		panic("no command")
	}
	return around + len(s)
}

// Commands whose records have chosen lengths have them.
func TestSized(t *testing.T) {
	if length(tick()) != small || length(pick(127)) != small || length(pick(128)) != small+1 {
		t.Error("small ones")
	}
	for _, where := range places() {
		for n := 50; n < 9000; n += 1 + n/50 {
			if got := length(sized(n, where)); got != n {
				t.Errorf("%d, not %d, in %s", got, n, where)
			}
		}
	}
}

// tellValue tells all fields of a value, floats by their bits; nil and an empty list alike.
func tellValue(v api.Value) string {
	s := fmt.Sprintf("(%d %d %x %q %q", v.Kind, v.N, math.Float64bits(v.F), v.S, v.Names)
	for _, item := range v.Items {
		s += tellValue(item)
	}
	return s + ")"
}

func tellCmd(c api.Cmd) string {
	return fmt.Sprintf("%d %d %v %d %s %s", c.Kind, c.Node, c.Inst, c.N, tellValue(c.Key), tellValue(c.V))
}

func tell(r api.Rec) string {
	return fmt.Sprintf("number %d at %d: %s", r.Seq, r.Label, tellCmd(r.C))
}

// canon answers a command with its floats as they are written.
func canon(c api.Cmd) api.Cmd {
	c.Key, c.V = value.Canon(c.Key), value.Canon(c.V)
	return c
}

// A state is what a journal is to be: its records, and its labels' sizes.
type state struct {
	recs  []api.Rec
	sizes []int
}

// fresh is a journal of n labels without records.
func fresh(n int) state { return state{sizes: make([]int, n)} }

// next is the number of the record that is written next, if nothing is torn.
func (s state) next() int { return len(s.recs) + 1 }

// with is the state behind one more record.
func (s state) with(label int, c api.Cmd) state {
	return s.withBytes(label, length(c)).withRec(label, c)
}

// withBytes is the state behind bytes of which no record comes.
func (s state) withBytes(label, n int) state {
	s.sizes = slices.Clone(s.sizes)
	s.sizes[label] += n
	return s
}

func (s state) withRec(label int, c api.Cmd) state {
	s.recs = append(slices.Clone(s.recs), api.Rec{Seq: s.next(), Label: label, C: canon(c)})
	return s
}

// checkRecs wants just these records.
func checkRecs(t *testing.T, what string, got, recs []api.Rec) {
	t.Helper()
	if len(got) != len(recs) {
		t.Fatalf("%s: %d records, not %d", what, len(got), len(recs))
	}
	for i, r := range recs {
		if tell(got[i]) != tell(r) {
			t.Fatalf("%s: record %d is %s, not %s", what, i, tell(got[i]), tell(r))
		}
	}
}

// check wants a journal to have just these records, and its labels just these sizes.
func check(t *testing.T, what string, j *Journal, s state) {
	t.Helper()
	checkRecs(t, what, j.Records(), s.recs)
	for label, size := range s.sizes {
		if got := j.Size(label); got != size {
			t.Fatalf("%s: label %d has %d bytes, not %d", what, label, got, size)
		}
	}
	for _, label := range nowhere(len(s.sizes)) {
		if got := j.Size(label); got != 0 {
			t.Fatalf("%s: label %d, which isn't there, has %d bytes", what, label, got)
		}
	}
}

// nowhere are numbers that no label of n has.
func nowhere(n int) []int {
	return []int{n, n + 1, most, most + 1, 255, 256, 1 << 16, 1 << 32, 1<<32 + n - 1, math.MaxInt - 1, math.MaxInt, -1, -2, -n, -most, -1 << 32, math.MinInt + 1, math.MinInt}
}

// want wants just this error.
func want(t *testing.T, what string, got, e api.Errno) {
	t.Helper()
	if got != e {
		t.Fatalf("%s: error %d, not %d", what, got, e)
	}
}

// made answers a journal of n labels.
func made(t *testing.T, n int) *Journal {
	t.Helper()
	j, e := New(n)
	if e != api.OK || j == nil {
		t.Fatalf("%d labels: error %d", n, e)
	}
	return j
}

// written writes a command, and answers what the journal is to be then.
func written(t *testing.T, j *Journal, s state, label int, c api.Cmd) state {
	t.Helper()
	want(t, fmt.Sprintf("Write at %d of %d, number %d", label, len(s.sizes), s.next()), j.Write(label, c), api.OK)
	return s.with(label, c)
}

// filledUp writes to a label, till only so much room is left.
func filledUp(t *testing.T, j *Journal, s state, label, room int) state {
	t.Helper()
	left := full - s.sizes[label] - room
	for left > longest {
		s = written(t, j, s, label, sized(1000, "both"))
		left -= 1000
	}
	return written(t, j, s, label, sized(left, "V"))
}

// goesOn wants the next record to have the next number, at each label that has room, one behind the other.
func goesOn(t *testing.T, what string, j *Journal, s state) {
	t.Helper()
	for label, size := range s.sizes {
		if size+small <= full {
			s = written(t, j, s, label, tick())
		}
	}
	check(t, what+", and more behind it", j, s)
}

// some answers a journal with records at all labels, one at the first and several at the others, but none at bare.
func some(t *testing.T, n, bare int) (*Journal, state) {
	t.Helper()
	j, s := made(t, n), fresh(n)
	for i := range 3*n + 1 {
		if label := i * 5 % n; label != bare && (label > 0 || i == 0) {
			s = written(t, j, s, label, pick(i*40))
		}
	}
	return j, s
}

// P18.1 to P18.3: the chapter's example.
func TestExample(t *testing.T) {
	j, s := made(t, 2), fresh(2)
	want(t, "Write", j.Write(1, tick()), api.OK)
	want(t, "Write", j.Write(0, tick()), api.OK)
	two := []api.Rec{{Seq: 1, Label: 1, C: tick()}, {Seq: 2, Label: 0, C: tick()}}
	checkRecs(t, "two", j.Records(), two)
	want(t, "Crash", j.Crash(0, tick(), 3), api.OK)
	checkRecs(t, "behind a crash", j.Recover(), two)
	want(t, "Crash", j.Crash(0, tick(), small), api.OK)
	three := append(two, api.Rec{Seq: 3, Label: 0, C: tick()})
	checkRecs(t, "behind a crash with all bytes", j.Recover(), three)
	s = s.with(1, tick()).with(0, tick()).with(0, tick())
	check(t, "in all", j, s)
	goesOn(t, "in all", j, s)
}

// P18.1: journals of 1 to 8 labels, without records; each label takes records, and those beside them don't.
func TestNew(t *testing.T) {
	for n := 1; n <= most; n++ {
		j, s := made(t, n), fresh(n)
		check(t, fmt.Sprint("new one of ", n), j, s)
		checkRecs(t, "recovered at once", j.Recover(), nil)
		check(t, fmt.Sprint("new one of ", n), j, s)
		for label := range n {
			s = written(t, j, s, label, pick(label))
			check(t, fmt.Sprint("one of ", n), j, s)
		}
		for label := n; label <= most; label++ {
			want(t, fmt.Sprint("Write at ", label, " of ", n), j.Write(label, tick()), api.ErrRange)
			want(t, fmt.Sprint("Crash at ", label, " of ", n), j.Crash(label, tick(), small), api.ErrRange)
		}
		check(t, fmt.Sprint("one of ", n), j, s)
		goesOn(t, fmt.Sprint("one of ", n), j, s)
	}
}

// P18.1: no journal of another number of labels.
func TestNewOfNone(t *testing.T) {
	for _, n := range []int{0, 9, 10, 16, 255, 256, 257, 1<<16 + 1, 1 << 31, 1 << 32, 1<<32 + 1, 1<<32 + 8, math.MaxInt - 1, math.MaxInt, -1, -2, -8, -255, -1 << 32, 1 - 1<<32, math.MinInt, math.MinInt + 1, math.MinInt + 8} {
		if j, e := New(n); j != nil || e != api.ErrArg {
			t.Errorf("New(%d): %v, error %d", n, j, e)
		}
	}
}

// Rule 7: journals know nothing of each other.
func TestJournalsApart(t *testing.T) {
	a, b := made(t, 2), made(t, 2)
	s := written(t, a, fresh(2), 0, pick(1))
	s = written(t, a, s, 1, pick(2))
	r := written(t, b, fresh(2), 0, pick(3))
	want(t, "Crash", a.Crash(0, pick(4), 5), api.OK)
	r = written(t, b, r, 0, pick(5))
	check(t, "the torn one", a, s.withBytes(0, 5))
	check(t, "the other one", b, r)
	check(t, "a new one", made(t, 2), fresh(2))
	checkRecs(t, "the other one", b.Recover(), r.recs)
	want(t, "still torn", a.Write(1, tick()), api.ErrTorn)
	goesOn(t, "the other one", b, r)
}

// commands are such as there may be: of every kind, with each number at its ends, and values of every kind.
func commands() []api.Cmd {
	all := []api.Cmd{
		{}, tick(),
		{Kind: api.CStart, Node: 39},
		{Kind: api.CComplete, Node: 3, Inst: api.Ref{Label: 7, N: 8}, V: num(-3)},
		{Kind: api.CDeliver, Node: 7, Key: str("k"), V: list(num(1), flo(-2.5))},
		{Kind: api.CPick, Node: 7, N: 10000},
		{Kind: 6}, {Kind: 10000, Node: 10000, Inst: api.Ref{Label: 10000, N: 10000}, N: 10000},
		{Kind: 127, Node: 128, Inst: api.Ref{Label: 127, N: 128}, N: 9999},
	}
	record := api.Value{Kind: api.VRec, Names: []string{"a", "b"}, Items: []api.Value{str(""), list()}}
	for _, v := range []api.Value{
		{Kind: api.VBool}, {Kind: api.VBool, N: 1}, num(0), num(math.MaxInt64), num(math.MinInt64),
		flo(0), flo(math.Copysign(0, -1)), flo(math.Inf(1)), flo(math.Inf(-1)), flo(math.NaN()), flo(math.Float64frombits(0xFFF0000000000001)), flo(math.SmallestNonzeroFloat64), flo(math.MaxFloat64),
		str(""), str("\x00\xff\n\""), str(strings.Repeat("é", 100)), list(), list(record, list(record, flo(math.Float64frombits(0x7FF0000000000001)))), record, {Kind: api.VRec},
		list(make200(num(-1))...),
	} {
		all = append(all, api.Cmd{Kind: api.CComplete, V: v}, api.Cmd{Kind: api.CDeliver, Key: v}, api.Cmd{Kind: api.CDeliver, Key: v, V: v})
	}
	return all
}

// make200 answers as many values as fit into one that is as great as may be.
func make200(v api.Value) []api.Value {
	var all []api.Value
	for range 199 {
		all = append(all, v)
	}
	return all
}

// P18.1: commands of every kind stand there as they were, at the first and the last label, by themselves and behind one another.
func TestWrite(t *testing.T) {
	for _, n := range []int{1, 2, most} {
		for _, label := range []int{0, n - 1} {
			j, s := made(t, n), fresh(n)
			for _, c := range commands() {
				one := made(t, n)
				check(t, "by itself", one, written(t, one, fresh(n), label, c))
				if s.sizes[label]+length(c) > full {
					j, s = made(t, n), fresh(n)
				}
				s = written(t, j, s, label, c)
				check(t, "behind others", j, s)
			}
		}
	}
}

// refused are commands that can't be written, each for one reason.
func refused() []api.Cmd {
	var all []api.Cmd
	for _, n := range []int{-1, -2, 10001, 1 << 16, 1 << 32, 1<<32 + 1, math.MaxInt, math.MinInt, math.MinInt + 1} {
		all = append(all, api.Cmd{Kind: n}, api.Cmd{Node: n}, api.Cmd{Inst: api.Ref{Label: n}}, api.Cmd{Inst: api.Ref{N: n}}, api.Cmd{N: n})
	}
	endless := list(num(1), num(2))
	endless.Items[1] = endless
	deep := list()
	for range 12 {
		deep = list(deep)
	}
	for _, v := range []api.Value{
		{N: 1}, {S: "x"}, {F: math.Copysign(0, -1)}, {Names: []string{"a"}}, {Items: []api.Value{num(1)}}, {Kind: -1}, {Kind: 7}, {Kind: 256 + api.VInt},
		{Kind: api.VBool, N: 2}, {Kind: api.VInt, S: "x"}, {Kind: api.VInt, F: 1}, str(strings.Repeat("x", 201)), list(api.Value{}), deep, endless, list(append(make200(num(1)), num(1))...),
		{Kind: api.VRec, Names: []string{"b", "a"}, Items: []api.Value{num(1), num(2)}}, {Kind: api.VRec, Names: []string{"a"}}, {Kind: api.VRec, Names: []string{"1"}, Items: []api.Value{num(1)}},
	} {
		all = append(all, api.Cmd{Kind: api.CComplete, V: v}, api.Cmd{Kind: api.CDeliver, Key: v}, api.Cmd{Kind: api.CDeliver, Key: num(1), V: v}, api.Cmd{Kind: api.CDeliver, Key: v, V: v})
	}
	return all
}

// tooLong are commands that may be, whose frames would be too long: by one byte, by some, by very many.
func tooLong() []api.Cmd {
	great := list(make200(str(strings.Repeat("y", 200)))...)
	all := []api.Cmd{{Kind: api.CDeliver, Key: great}, {Kind: api.CDeliver, V: great}, {Kind: api.CDeliver, Key: great, V: great}}
	for _, where := range places() {
		for _, n := range []int{longest + 1, longest + 2, longest + 255, 2 * longest, full - 1, full, full + 1, 2 * full, 16000} {
			all = append(all, sized(n, where))
		}
	}
	return all
}

// P18.1: what pack.Cmd refuses, or is too long, is ErrForm, and changes nothing, the next number neither; so of a crash, which leaves the journal untorn.
func TestRefused(t *testing.T) {
	for _, n := range []int{1, 3, most} {
		for _, label := range []int{0, n - 1} {
			for _, c := range append(refused(), tooLong()...) {
				j, s := some(t, n, label)
				want(t, "Write", j.Write(label, c), api.ErrForm)
				check(t, "behind what was refused", j, s)
				for _, k := range []int{math.MinInt, -1, 0, 1, small, longest, full, math.MaxInt} {
					want(t, "Crash", j.Crash(label, c, k), api.ErrForm)
				}
				check(t, "behind crashes that were refused", j, s)
				goesOn(t, "behind what was refused", j, s)
			}
		}
	}
}

// P18.1: a frame may be 2006 bytes long, and no longer.
func TestLongest(t *testing.T) {
	for _, where := range places() {
		for n := longest - 300; n <= longest+300; n++ {
			c := sized(n, where)
			j, s := made(t, 2), fresh(2)
			if n > longest {
				want(t, fmt.Sprint("a frame of ", n), j.Write(1, c), api.ErrForm)
				want(t, fmt.Sprint("a frame of ", n), j.Crash(1, c, 9), api.ErrForm)
				check(t, fmt.Sprint("a frame of ", n), j, s)
				continue
			}
			s = written(t, j, s, 1, c)
			check(t, fmt.Sprint("a frame of ", n), j, s)
			want(t, fmt.Sprint("a frame of ", n), j.Crash(0, c, n), api.OK)
			j.Recover()
			check(t, fmt.Sprint("a frame of ", n, " behind a crash"), j, s.with(0, c))
		}
	}
}

// P18.1: a segment may be filled up to its last byte; where the room is too small, be it by one byte, the segment, the records and the next number stay as they were.
func TestFull(t *testing.T) {
	for _, n := range []int{1, 2, most} {
		for _, label := range []int{0, n - 1} {
			for _, room := range []int{0, 1, small - 1, small, small + 1, 50, 51, 255, 256, 257, 1000, longest - 1, longest, longest + 1} {
				j, s := some(t, n, label)
				s = filledUp(t, j, s, label, room)
				for _, more := range []int{1, 2, 50, longest} {
					if room+more > longest || room+more < 50 {
						continue
					}
					want(t, fmt.Sprint("one of ", room+more, " into ", room), j.Write(label, sized(room+more, "Key")), api.ErrFull)
					want(t, fmt.Sprint("one of ", room+more, " into ", room), j.Crash(label, sized(room+more, "V"), 3), api.ErrFull)
				}
				check(t, fmt.Sprint("room of ", room), j, s)
				if room < small {
					want(t, fmt.Sprint("a tick into ", room), j.Write(label, tick()), api.ErrFull)
					want(t, fmt.Sprint("a tick into ", room), j.Crash(label, tick(), -1), api.ErrFull)
					check(t, fmt.Sprint("room of ", room), j, s)
					goesOn(t, fmt.Sprint("room of ", room), j.Copy(), s)
					continue
				}
				last := tick()
				if room >= 50 {
					last = sized(min(room, longest), "both")
				}
				goesOn(t, fmt.Sprint("room of ", room), j.Copy(), s)
				s = written(t, j, s, label, last)
				check(t, fmt.Sprint("full, room of ", room), j, s)
				goesOn(t, fmt.Sprint("full, room of ", room), j, s)
			}
		}
	}
}

// P18.1: a segment takes 235 ticks, and not one more, whatever the others have.
func TestFullOfTicks(t *testing.T) {
	for _, n := range []int{1, most} {
		j, s := made(t, n), fresh(n)
		for label := range n {
			for range full / small {
				s = written(t, j, s, label, tick())
			}
			for range 3 {
				want(t, "one more", j.Write(label, tick()), api.ErrFull)
				want(t, "one more", j.Crash(label, tick(), 1), api.ErrFull)
			}
			check(t, fmt.Sprint("full up to ", label), j, s)
		}
		checkRecs(t, "full", j.Recover(), s.recs)
		check(t, "recovered, full", j, s)
	}
}

// P18.1, rule 2: of several errors the one that is named first.
func TestFirstError(t *testing.T) {
	const n = 3
	for _, room := range []int{0, 1, small - 1} {
		j, s := some(t, n, 1)
		s = filledUp(t, j, s, 1, room)
		for _, c := range append(append(refused(), tooLong()...), tick(), sized(longest, "Key"), sized(50, "V")) {
			for _, label := range nowhere(n) {
				want(t, fmt.Sprint("Write at ", label), j.Write(label, c), api.ErrRange)
				want(t, fmt.Sprint("Crash at ", label), j.Crash(label, c, label), api.ErrRange)
			}
		}
		for _, c := range append(refused(), tooLong()...) {
			want(t, "Write of none at a full label", j.Write(1, c), api.ErrForm)
			want(t, "Crash of none at a full label", j.Crash(1, c, 0), api.ErrForm)
		}
		for _, c := range []api.Cmd{tick(), sized(longest, "Key"), sized(50, "V")} {
			want(t, "Write at a full label", j.Write(1, c), api.ErrFull)
			want(t, "Crash at a full label", j.Crash(1, c, 0), api.ErrFull)
		}
		check(t, "behind all errors", j, s)
		goesOn(t, "behind all errors", j, s)
	}
}
