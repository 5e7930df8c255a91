package journal

import (
	"fmt"
	"hash/crc32"
	"math/rand"
	"reflect"
	"slices"
	"testing"

	"bascule/api"
	"bascule/disk"
	"bascule/pack"
)

// orders are ways to go through labels: one after the other, round and round, to and fro, anyhow.
func orders(n, records int) map[string][]int {
	r := rand.New(rand.NewSource(1))
	all := map[string][]int{}
	for i := range records {
		all["one after the other"] = append(all["one after the other"], i*n/records)
		all["backwards"] = append(all["backwards"], n-1-i*n/records)
		all["round and round"] = append(all["round and round"], i%n)
		all["round backwards"] = append(all["round backwards"], n-1-i%n)
		all["two by two"] = append(all["two by two"], i/2%n)
		all["anyhow"] = append(all["anyhow"], r.Intn(n))
	}
	return all
}

// P18.1, P18.3: numbers go over all labels together, from 1 on, and records are answered by them, however the labels took turns.
func TestNumbers(t *testing.T) {
	for n := 1; n <= most; n++ {
		for how, labels := range orders(n, 40) {
			j, s := made(t, n), fresh(n)
			for i, label := range labels {
				s = written(t, j, s, label, pick(i*3))
				check(t, how, j, s)
			}
			checkRecs(t, how, j.Recover(), s.recs)
			goesOn(t, how, j, s)
		}
	}
}

// P18.1: as many records as there may be at all, so that numbers go beyond a byte.
func TestManyNumbers(t *testing.T) {
	const records = most * (full / small)
	for how, labels := range orders(most, records) {
		if how == "anyhow" {
			rand.New(rand.NewSource(2)).Shuffle(records, func(a, b int) { labels[a], labels[b] = labels[b], labels[a] })
			slices.SortStableFunc(labels[:records/2], func(a, b int) int { return a%2 - b%2 })
		}
		j, s := made(t, most), fresh(most)
		for _, label := range labels {
			if s.sizes[label]+small > full {
				want(t, "full", j.Write(label, tick()), api.ErrFull)
				continue
			}
			s = state{append(s.recs, api.Rec{Seq: s.next(), Label: label, C: tick()}), s.sizes}
			s.sizes[label] += small
			want(t, "Write", j.Write(label, tick()), api.OK)
			if n := len(s.recs); n > 250 && n < 260 {
				check(t, how, j, s)
			}
		}
		check(t, how, j, s)
		checkRecs(t, how, j.Recover(), s.recs)
		check(t, how, j, s)
	}
}

// P18.4: a label's size hangs on that label's commands alone, however much is written elsewhere, ahead of it or in between.
func TestSizesApart(t *testing.T) {
	for _, n := range []int{2, most} {
		for _, label := range []int{0, n - 1} {
			alone, beside := made(t, n), made(t, n)
			s := fresh(n)
			for i := range 40 {
				for other := range n {
					for range 5 {
						if other != label {
							s = written(t, beside, s, other, tick())
						}
					}
				}
				c := sized(60+i, places()[i%3])
				s = written(t, beside, s, label, c)
				want(t, "Write", alone.Write(label, c), api.OK)
				if a, b := alone.Size(label), beside.Size(label); a != b {
					t.Fatalf("label %d of %d, record %d: %d bytes alone, %d beside others", label, n, i, a, b)
				}
			}
			check(t, "beside others", beside, s)
		}
	}
}

// P18.4: what a label refuses hangs on that label's commands alone, too, though all others be full.
func TestRoomApart(t *testing.T) {
	for label := range most {
		j, s := made(t, most), fresh(most)
		for other := range most {
			if other != label {
				s = filledUp(t, j, s, other, 0)
			}
		}
		s = filledUp(t, j, s, label, small)
		want(t, "no room", j.Write(label, pick(128)), api.ErrFull)
		s = written(t, j, s, label, pick(127))
		check(t, "all full", j, s)
		checkRecs(t, "all full", j.Recover(), s.recs)
	}
}

// diskOf answers the disk that a journal has: what stands on it can't be asked for otherwise.
func diskOf(t *testing.T, j *Journal) *disk.Disk {
	t.Helper()
	all := reflect.ValueOf(j).Elem()
	for i := range all.NumField() {
		if f := all.Field(i); f.Type() == reflect.TypeFor[*disk.Disk]() {
			return (*disk.Disk)(f.UnsafePointer())
		}
	}
	t.Skip("no disk")
	return nil
}

// spell answers a record's bytes by the document's words.
func spell(t *testing.T, seq int, c api.Cmd) string {
	t.Helper()
	command, e := pack.Cmd(c)
	want(t, "pack.Cmd", e, api.OK)
	payload := string([]byte{byte(seq >> 24), byte(seq >> 16), byte(seq >> 8), byte(seq)}) + command
	s := string([]byte{byte(len(payload) >> 8), byte(len(payload))}) + payload
	sum := crc32.ChecksumIEEE([]byte(s))
	return s + string([]byte{byte(sum), byte(sum >> 8), byte(sum >> 16), byte(sum >> 24)})
}

// Words: what stands in each label's segment, byte by byte, and what a crash leaves there.
func TestBytes(t *testing.T) {
	j := made(t, 3)
	d := diskOf(t, j)
	var segments [3]string
	checkBytes := func(what string) {
		t.Helper()
		for label, s := range segments {
			if got := d.Read(label); got != s {
				t.Fatalf("%s: label %d has %x, not %x", what, label, got, s)
			}
		}
	}
	all := commands()
	for seq := 1; seq <= 300; seq++ {
		c, label := tick(), seq*5%3
		if seq <= len(all) && length(all[seq-1]) < 100 {
			c = all[seq-1]
		}
		want(t, fmt.Sprint("Write of number ", seq), j.Write(label, c), api.OK)
		segments[label] += spell(t, seq, c)
		checkBytes(fmt.Sprint("number ", seq))
	}
	s := spell(t, 301, pick(5))
	for keep := range len(s) {
		want(t, "Crash", j.Crash(1, pick(5), keep), api.OK)
		segments[1] += s[:keep]
		checkBytes(fmt.Sprint("of the record ", keep))
		j.Recover()
		segments[1] = segments[1][:len(segments[1])-keep]
		checkBytes(fmt.Sprint("recovered of ", keep))
	}
	want(t, "Crash", j.Crash(1, pick(5), len(s)), api.OK)
	segments[1] += s
	checkBytes("all of the record")
	j.Recover()
	checkBytes("recovered of all")
	want(t, "Write", j.Write(0, tick()), api.OK)
	segments[0] += spell(t, 302, tick())
	checkBytes("and one more")
}
