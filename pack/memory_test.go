package pack

import (
	"cmp"
	"fmt"
	"math"
	"reflect"
	"slices"
	"testing"
	"unsafe"
)

// lay tells all fields of anything, floats by their bits, lists with so much of their spare room as room says; nil and an empty list alike.
func lay(v reflect.Value, room bool) string {
	switch v.Kind() {
	case reflect.Slice, reflect.Array:
		if v.Kind() == reflect.Slice && room {
			v = v.Slice(0, v.Cap())
		}
		s := fmt.Sprint("[", v.Len())
		for i := range v.Len() {
			s += " " + lay(v.Index(i), room)
		}
		return s + "]"
	case reflect.Struct:
		s := "{"
		for i := range v.NumField() {
			s += " " + lay(v.Field(i), room)
		}
		return s + "}"
	case reflect.Float64:
		return fmt.Sprintf("%x", math.Float64bits(v.Float()))
	case reflect.String:
		return fmt.Sprintf("%q", v.String())
	}
	return fmt.Sprint(v.Interface())
}

// laidOpen tells anything with its spare room.
func laidOpen(thing any) string { return lay(reflect.ValueOf(thing), true) }

// exactly tells anything without it.
func exactly(thing any) string { return lay(reflect.ValueOf(thing), false) }

// place is memory from one byte up to another one.
type place struct {
	from, to uintptr
	isText   bool
}

// places answers the memory of all lists, with their spare room, and of all texts.
func places(v reflect.Value) []place {
	var all []place
	switch v.Kind() {
	case reflect.Slice:
		if size := uintptr(v.Cap()) * v.Type().Elem().Size(); size > 0 {
			from := uintptr(v.UnsafePointer())
			all = append(all, place{from, from + size, false})
		}
		fallthrough
	case reflect.Array:
		for i := range v.Len() {
			all = append(all, places(v.Index(i))...)
		}
	case reflect.Struct:
		for i := range v.NumField() {
			all = append(all, places(v.Field(i))...)
		}
	case reflect.Interface:
		return places(v.Elem())
	case reflect.String:
		if s := v.String(); s != "" && !isRuntimes(s) {
			from := uintptr(unsafe.Pointer(unsafe.StringData(s)))
			all = append(all, place{from, from + uintptr(len(s)), true})
		}
	}
	return all
}

// isRuntimes tells whether a text is one of those of one byte that the language itself keeps, each once for all.
func isRuntimes(s string) bool {
	return unsafe.StringData(s) == unsafe.StringData(string([]byte{s[0]})) && len(s) == 1
}

// checkNew tells whether an answer shares memory with what was handed in, or two of its lists one with the other.
func checkNew(t *testing.T, answer any, given ...any) {
	t.Helper()
	of := map[bool][]place{true: places(reflect.ValueOf(answer)), false: places(reflect.ValueOf(given))}
	type end struct {
		place
		isAnswer bool
	}
	var ends []end
	for isAnswer, all := range of {
		for _, p := range all {
			ends = append(ends, end{p, isAnswer})
		}
	}
	slices.SortFunc(ends, func(a, b end) int { return cmp.Compare(a.from, b.from) })
	for i, a := range ends {
		for _, b := range ends[i+1:] {
			if b.from >= a.to {
				break
			}
			if a.isAnswer != b.isAnswer || a.isAnswer && !a.isText && !b.isText {
				t.Fatalf("shared memory: %.500s", exactly(answer))
			}
		}
	}
}

// scribbleOver writes into all lists, their spare room too, and all that is in them.
func scribbleOver(v reflect.Value) {
	switch v.Kind() {
	case reflect.Slice:
		v = v.Slice(0, v.Cap())
		fallthrough
	case reflect.Array:
		for i := range v.Len() {
			scribbleOver(v.Index(i))
		}
	case reflect.Struct:
		for i := range v.NumField() {
			scribbleOver(v.Field(i))
		}
	case reflect.String:
		v.SetString("scribbled")
	case reflect.Float64:
		v.SetFloat(77.5)
	default:
		v.SetInt(v.Int() ^ 77)
	}
}

// scribble asks for a pointer.
func scribble(thing any) { scribbleOver(reflect.ValueOf(thing).Elem()) }

// withRoomIn gives each list in it spare room, in which something stands.
func withRoomIn(v reflect.Value) {
	switch v.Kind() {
	case reflect.Slice:
		wide := reflect.MakeSlice(v.Type(), v.Len()+2, v.Len()+2)
		reflect.Copy(wide, v)
		for i := range wide.Len() {
			if i >= v.Len() {
				scribbleOver(wide.Index(i))
			} else {
				withRoomIn(wide.Index(i))
			}
		}
		v.Set(wide.Slice(0, v.Len()))
	case reflect.Struct:
		for i := range v.NumField() {
			withRoomIn(v.Field(i))
		}
	}
}

// withRoom asks for a pointer.
func withRoom(thing any) { withRoomIn(reflect.ValueOf(thing).Elem()) }
