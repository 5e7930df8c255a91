package disk

import (
	"testing"
	"unsafe"

	"bascule/api"
)

// Rule 7: the same is answered again, as often as it is asked, also behind what was refused.
func TestAgain(t *testing.T) {
	segments := rows(most)
	d := made(t, segments...)
	for range 3 {
		check(t, "again", d, segments...)
		want(t, "Append to a copy", d.Copy().Append(0, "a"), api.OK)
		want(t, "too many", d.Append(3, row(1, full)), api.ErrFull)
		want(t, "too many, torn", d.Tear(3, row(1, full), 1), api.ErrFull)
		want(t, "beyond", d.Cut(3, full), api.ErrRange)
		want(t, "nowhere", d.Append(most, "a"), api.ErrRange)
	}
}

// overlaid answers a string whose bytes are those of b, and change with them.
func overlaid(b []byte) string {
	return unsafe.String(unsafe.SliceData(b), len(b))
}

// Rule 5: what is handed in isn't kept, wherever it is put, and stays as it is, with what stands behind it.
func TestHandedInIsNotKept(t *testing.T) {
	for length := 1; length <= 40; length++ {
		for _, ahead := range []string{"", "a", row(1, 99)} {
			for _, keep := range []int{1, length / 2, length, length + 5} {
				b := []byte(row(2, length+8))
				s := string(b[:length])
				appended, torn := made(t, ahead), made(t, ahead)
				want(t, "Append", appended.Append(0, overlaid(b[:length])), api.OK)
				want(t, "Tear", torn.Tear(0, overlaid(b[:length]), keep), api.OK)
				want(t, "Append of no bytes", torn.Append(0, ""), api.OK)
				if string(b) != row(2, length+8) {
					t.Fatal("what was handed in became another one")
				}
				clear(b)
				check(t, "appended", appended, ahead+s)
				check(t, "torn", torn, ahead+s[:min(keep, length)])
			}
		}
	}
}

// Rule 5: what is read is new memory each time, of a copy too, also where all that stands there came in one part.
func TestReadIsNew(t *testing.T) {
	for _, length := range []int{1, 2, 3, 31, 32, 33, 500, full} {
		s := row(1, length)
		d := made(t, s, "a")
		c := d.Copy()
		places := map[*byte]bool{unsafe.StringData(s): true}
		for range 3 {
			for _, of := range []*Disk{d, c} {
				place := unsafe.StringData(of.Read(0))
				if places[place] {
					t.Fatal("the same memory:", length)
				}
				places[place] = true
			}
		}
	}
}
