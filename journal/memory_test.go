package journal

import (
	"testing"
	"unsafe"

	"bascule/api"
)

// Rule 7: the same is answered again, as often as it is asked, also behind what was refused.
func TestAgain(t *testing.T) {
	j, s := some(t, 3, 1)
	s = filledUp(t, j, s, 1, 9)
	for range 3 {
		check(t, "again", j, s)
		want(t, "Write to a copy", j.Copy().Write(0, tick()), api.OK)
		want(t, "Crash of a copy", j.Copy().Crash(0, tick(), 5), api.OK)
		want(t, "no room", j.Write(1, tick()), api.ErrFull)
		want(t, "none", j.Write(0, api.Cmd{N: -1}), api.ErrForm)
		want(t, "nowhere", j.Write(3, tick()), api.ErrRange)
		checkRecs(t, "recovered again", j.Recover(), s.recs)
	}
}

// overlaid answers a string whose bytes are those of b, and change with them.
func overlaid(b []byte) string {
	return unsafe.String(unsafe.SliceData(b), len(b))
}

// A handed is a command with all the memory that it is made of: texts, and lists with spare room.
type handed struct {
	c     api.Cmd
	texts [][]byte
	items [][]api.Value
	names [][]string
}

func (h *handed) text(s string) string {
	b := []byte(s)
	h.texts = append(h.texts, b)
	return overlaid(b)
}

func (h *handed) list(items ...api.Value) []api.Value {
	all := append(make([]api.Value, 0, len(items)+3), items...)
	h.items = append(h.items, all)
	return all
}

// value answers a record with a list, texts and numbers in it.
func (h *handed) value() api.Value {
	names := append(make([]string, 0, 5), h.text("first"), h.text("second"))
	h.names = append(h.names, names)
	texts := h.list(str(h.text("some text")), num(7), flo(-0.5))
	return api.Value{Kind: api.VRec, Names: names, Items: h.list(list(texts...), str(h.text("x")))}
}

// hand answers a command that is all its own memory.
func hand() *handed {
	h := &handed{}
	h.c = api.Cmd{Kind: api.CDeliver, Node: 1, Key: h.value(), V: h.value()}
	return h
}

// spoil writes over all that the command is made of, and behind it.
func (h *handed) spoil() {
	for _, b := range h.texts {
		clear(b)
	}
	for _, items := range h.items {
		clear(items[:cap(items)])
	}
	for _, names := range h.names {
		clear(names[:cap(names)])
	}
}

// Rule 5: what is handed in isn't kept, and stays as it is, its spare room too.
func TestHandedIn(t *testing.T) {
	plainly := hand().c
	for _, keep := range []int{-1, 0, 9, 60, full} {
		h, torn := hand(), hand()
		j, s := some(t, 2, 1)
		want(t, "Write", j.Write(1, h.c), api.OK)
		s = s.with(1, plainly)
		want(t, "nowhere", j.Write(2, h.c), api.ErrRange)
		want(t, "Crash", j.Crash(0, torn.c, keep), api.OK)
		left := s.withBytes(0, kept(keep, length(plainly)))
		if keep == full {
			s = s.with(0, plainly)
			left = s
		}
		want(t, "torn", j.Write(1, h.c), api.ErrTorn)
		for _, each := range []*handed{h, torn} {
			if tellCmd(each.c) != tellCmd(plainly) {
				t.Fatal("what was handed in became another one")
			}
			for _, items := range each.items {
				for _, v := range items[len(items):cap(items)] {
					if tellValue(v) != tellValue(api.Value{}) {
						t.Fatal("something stands in the spare room")
					}
				}
			}
			each.spoil()
		}
		check(t, "behind what was spoilt", j, left)
		checkRecovered(t, "behind what was spoilt", j, s)
	}
}

// spoilValue writes over all lists of a value that was answered, and behind them.
func spoilValue(v api.Value) {
	for _, item := range v.Items {
		spoilValue(item)
	}
	clear(v.Items[:cap(v.Items)])
	clear(v.Names[:cap(v.Names)])
}

func spoilRecs(list []api.Rec) {
	for _, r := range list {
		spoilValue(r.C.Key)
		spoilValue(r.C.V)
	}
	clear(list[:cap(list)])
}

// Rule 5: what is handed out is the caller's own: neither the journal, nor its copy, nor another answer, nor another record of it is spoilt with it.
func TestHandedOut(t *testing.T) {
	j, s := some(t, 2, 1)
	for i := range 6 {
		s = written(t, j, s, i%2, hand().c)
	}
	c := j.Copy()
	for range 2 {
		for _, ask := range []func() []api.Rec{j.Records, j.Recover, c.Records, c.Recover} {
			one, other := ask(), ask()
			spoilValue(one[len(one)-2].C.Key)
			kept := one[len(one)-2]
			if tellValue(kept.C.V) != tellValue(hand().c.V) {
				t.Fatal("a record's V was spoilt with its Key")
			}
			checkRecs(t, "the records around it", append(one[:len(one)-2:len(one)-2], one[len(one)-1]), append(s.recs[:len(one)-2:len(one)-2], s.recs[len(one)-1]))
			spoilRecs(one)
			checkRecs(t, "another answer", other, s.recs)
			check(t, "the journal", j, s)
			check(t, "its copy", c, s)
		}
	}
	goesOn(t, "the journal", j, s)
	goesOn(t, "its copy", c, s)
}

// textsOf answers where the texts of a value lie.
func textsOf(v api.Value) []*byte {
	var all []*byte
	for _, s := range append([]string{v.S}, v.Names...) {
		if s != "" {
			all = append(all, unsafe.StringData(s))
		}
	}
	for _, item := range v.Items {
		all = append(all, textsOf(item)...)
	}
	return all
}

// Rule 5: the texts of each answer are new memory, too.
func TestTextsAreNew(t *testing.T) {
	h := hand()
	j, s := made(t, 1), fresh(1)
	s = written(t, j, s, 0, h.c)
	met := map[*byte]bool{}
	for _, b := range h.texts {
		met[unsafe.SliceData(b)] = true
	}
	var kept [][]api.Rec // so that no memory is used again
	for _, ask := range []func() []api.Rec{j.Records, j.Records, j.Recover, j.Recover, j.Copy().Records} {
		list := ask()
		checkRecs(t, "one record", list, s.recs)
		kept = append(kept, list)
		for _, at := range append(textsOf(list[0].C.Key), textsOf(list[0].C.V)...) {
			if met[at] {
				t.Fatal("the same memory, answer", len(kept))
			}
			met[at] = true
		}
	}
}
