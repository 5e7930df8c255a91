package fresh

import (
	"fmt"
	"math"
	"testing"
	"unsafe"

	"bascule/api"
)

// places answers where all the lists and texts of an expression stand.
func places(x api.Expr) []uintptr {
	all := append(placesOf(x.V), placesOfNames(append([]string{x.S}, x.Names...))...)
	all = append(all, uintptr(unsafe.Pointer(unsafe.SliceData(x.Names))), uintptr(unsafe.Pointer(unsafe.SliceData(x.Kids))))
	for _, kid := range x.Kids {
		all = append(all, places(kid)...)
	}
	return all
}

func placesOf(v api.Value) []uintptr {
	all := placesOfNames(append([]string{v.S}, v.Names...))
	all = append(all, uintptr(unsafe.Pointer(unsafe.SliceData(v.Names))), uintptr(unsafe.Pointer(unsafe.SliceData(v.Items))))
	for _, item := range v.Items {
		all = append(all, placesOf(item)...)
	}
	return all
}

func placesOfType(t api.Type) []uintptr {
	all := append(placesOfNames(t.Names), uintptr(unsafe.Pointer(unsafe.SliceData(t.Names))), uintptr(unsafe.Pointer(unsafe.SliceData(t.Items))))
	for _, item := range t.Items {
		all = append(all, placesOfType(item)...)
	}
	return all
}

func placesOfNames(names []string) []uintptr {
	var all []uintptr
	for _, name := range names {
		if name != "" {
			all = append(all, uintptr(unsafe.Pointer(unsafe.StringData(name))))
		}
	}
	return all
}

// share answers whether two rows of places have one in common, or one of them has one twice.
func share(a, b []uintptr) bool {
	met := map[uintptr]bool{0: false}
	for _, at := range a {
		met[at] = at != 0
	}
	for _, at := range b {
		if met[at] {
			return true
		}
		met[at] = at != 0
	}
	return false
}

// Rule 5: what is copied is the same, and shares no memory.
func TestFresh(t *testing.T) {
	v := api.Value{Kind: 9, N: -1, F: math.Float64frombits(0xFFF8000000000001), S: "abc", Names: []string{"de", "", "de"}, Items: []api.Value{{S: "fg"}, {Items: []api.Value{{Names: []string{"hi"}, F: math.Copysign(0, -1)}}}}}
	of := api.Type{Kind: 6, Names: []string{"jk"}, Items: []api.Type{{Kind: 1}, {Kind: 5, Items: []api.Type{{Kind: 9, Names: []string{"lm"}}}}}}
	inner := api.Expr{Kind: api.EConst, S: "no", V: v, Names: []string{"pq"}}
	x := api.Expr{Kind: 33, S: "rs", V: v, Names: []string{"tu", "vw"}, Kids: []api.Expr{inner, inner, {Kids: []api.Expr{inner}}}}
	copied, ofCopied, xCopied := Value(v), Type(of), Expr(x)
	if fmt.Sprint(copied) != fmt.Sprint(v) || fmt.Sprint(ofCopied) != fmt.Sprint(of) || fmt.Sprint(xCopied) != fmt.Sprint(x) {
		t.Error("another one")
	}
	if math.Float64bits(copied.F) != math.Float64bits(v.F) || math.Float64bits(xCopied.Kids[0].V.Items[1].Items[0].F) != 1<<63 {
		t.Error("other floats")
	}
	if share(placesOf(v), placesOf(copied)) || share(placesOfType(of), placesOfType(ofCopied)) || share(places(x), places(xCopied)) {
		t.Error("shared memory")
	}
}

// Rule 4: an empty list becomes none.
func TestFreshNothing(t *testing.T) {
	x := Expr(api.Expr{V: api.Value{Names: []string{}, Items: []api.Value{}}, Names: make([]string, 0, 5), Kids: []api.Expr{}})
	if x.Kids != nil || x.Names != nil || x.V.Names != nil || x.V.Items != nil || Names(nil) != nil || Type(api.Type{Items: []api.Type{}}).Items != nil {
		t.Error("lists:", x)
	}
}

// Rule 5: a list of anything, with each thing in it made anew, and the one that was handed in as it was.
func TestEach(t *testing.T) {
	list := append(make([]int, 0, 4), 3, 1, 2)
	copied := Each(list, func(n int) int { return 10 * n })
	if fmt.Sprint(copied) != "[30 10 20]" || fmt.Sprint(list[:4]) != "[3 1 2 0]" {
		t.Error("another one:", copied, list[:4])
	}
	if Each([]int{}, func(n int) int { return n }) != nil || Each(list[:0], func(n int) int { return n }) != nil {
		t.Error("an empty list")
	}
}
