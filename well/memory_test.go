package well

import (
	"fmt"
	"math"
	"math/rand"
	"reflect"
	"slices"
	"testing"

	"bascule/api"
	"bascule/model"
)

// lay tells all fields of anything, floats by their bits, lists with their spare room.
func lay(v reflect.Value) string {
	switch v.Kind() {
	case reflect.Slice, reflect.Array:
		s := fmt.Sprint("[", v.Len())
		if v.Kind() == reflect.Slice {
			v = v.Slice(0, v.Cap())
		}
		for i := range v.Len() {
			s += " " + lay(v.Index(i))
		}
		return s + "]"
	case reflect.Struct:
		s := "{"
		for i := range v.NumField() {
			s += " " + lay(v.Field(i))
		}
		return s + "}"
	case reflect.Float64:
		return fmt.Sprintf("%x", math.Float64bits(v.Float()))
	}
	return fmt.Sprintf("%#v", v.Interface())
}

// widen gives each list in it spare room, in which something stands.
func widen(v reflect.Value) {
	switch v.Kind() {
	case reflect.Slice:
		n := v.Len()
		wide := reflect.MakeSlice(v.Type(), n+2, n+2)
		reflect.Copy(wide, v)
		for i := range n {
			widen(wide.Index(i))
		}
		if n > 0 {
			wide.Index(n).Set(wide.Index(0))
		}
		v.Set(wide.Slice(0, n))
	case reflect.Struct:
		for i := range v.NumField() {
			widen(v.Field(i))
		}
	}
}

// Rule 5: what is handed in stays as it was, its spare room too, and what is answered is new memory.
func TestModelsStay(t *testing.T) {
	r := rand.New(rand.NewSource(5))
	models := []api.Model{{}, plain(), full(), faulty(), {Labels: 2}}
	for range 150 {
		m := model.Own(anyModel(r))
		turn(r, &m)
		models = append(models, m)
	}
	for _, m := range models {
		m = model.Own(m)
		widen(reflect.ValueOf(&m).Elem())
		before := lay(reflect.ValueOf(m))
		faults := Check(m)
		told := slices.Clone(faults)
		for i := range faults[:cap(faults)] {
			faults[:cap(faults)][i] = api.Fault{Rule: 9, At: 99}
		}
		again := Check(m)
		l, e := Lattice(m)
		if lay(reflect.ValueOf(m)) != before || !slices.Equal(again, told) {
			t.Fatal("what was handed in became another one, or another answer comes")
		}
		if l2, e2 := Lattice(m); e2 != e || (l == nil) != (e != api.OK) || l != nil && l == l2 {
			t.Fatal("lattices:", e, e2)
		}
	}
}

// Rule 5: types stay, too.
func TestTypesStay(t *testing.T) {
	for _, of := range []api.Type{{}, recOf("a b", typ(api.TInt), listOf(typ(api.TNone))), recOf("b a", typ(api.TInt), typ(api.TInt)), wideType(200, api.TStr), deepType(13, api.TInt)} {
		widen(reflect.ValueOf(&of).Elem())
		before := lay(reflect.ValueOf(of))
		if Ground(of) != Ground(of) || lay(reflect.ValueOf(of)) != before {
			t.Error("another type, or another answer")
		}
	}
}

// Rule 4: nil and an empty list are one.
func TestNilIsEmpty(t *testing.T) {
	for _, m := range []api.Model{{}, {Labels: 1}, plain(), full(), faulty()} {
		want := Check(m)
		full := model.Own(m)
		emptied(reflect.ValueOf(&full).Elem())
		if got := Check(full); !slices.Equal(got, want) {
			t.Error("empty lists:", got, want)
		}
	}
	if empty := (api.Type{Kind: api.TInt, Names: []string{}, Items: []api.Type{}}); !Ground(empty) {
		t.Error("an empty list in a type")
	}
}

// emptied makes an empty list of each that is nil.
func emptied(v reflect.Value) {
	switch v.Kind() {
	case reflect.Slice:
		if v.IsNil() {
			v.Set(reflect.MakeSlice(v.Type(), 0, 2))
		}
		for i := range v.Len() {
			emptied(v.Index(i))
		}
	case reflect.Struct:
		for i := range v.NumField() {
			emptied(v.Field(i))
		}
	}
}
