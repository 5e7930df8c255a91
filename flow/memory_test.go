package flow

import (
	"fmt"
	"math/rand"
	"reflect"
	"slices"
	"testing"

	"bascule/api"
	"bascule/model"
)

// lay tells all fields of anything, lists with their spare room.
func lay(v reflect.Value) string {
	switch v.Kind() {
	case reflect.Slice:
		s := fmt.Sprint("[", v.Len())
		v = v.Slice(0, v.Cap())
		for i := range v.Len() {
			s += " " + lay(v.Index(i))
		}
		return s + "]"
	case reflect.Struct:
		s := "{"
		for i := range v.NumField() {
			s += " " + lay(v.Field(i))
		}
		return s + "}"
	}
	return fmt.Sprintf("%#v", v.Interface())
}

// widen gives each list in it spare room, in which something stands; one that is nil becomes an empty one.
func widen(v reflect.Value) {
	switch v.Kind() {
	case reflect.Slice:
		n := v.Len()
		wide := reflect.MakeSlice(v.Type(), n+2, n+2)
		reflect.Copy(wide, v)
		for i := range n {
			widen(wide.Index(i))
		}
		if n > 0 {
			wide.Index(n).Set(wide.Index(0))
		}
		v.Set(wide.Slice(0, n))
	case reflect.Struct:
		for i := range v.NumField() {
			widen(v.Field(i))
		}
	}
}

// told tells all answers.
func told(m api.Model) string {
	lifted, e := Lift(m)
	s := fmt.Sprintf("%v %v %v %v", Check(m), Accepts(m), lifted, e)
	for level := range 9 {
		s += fmt.Sprint(Releases(m, level))
	}
	return s
}

// fill writes all over a list, its spare room too.
func fill[T any](list []T, with T) {
	for i := range list[:cap(list)] {
		list[:cap(list)][i] = with
	}
}

// isFull tells whether it still stands all over it.
func isFull(list []int, n int) bool {
	return !slices.ContainsFunc(list[:cap(list)], func(other int) bool { return other != n })
}

// Rules 4, 5, 7: what is handed in stays, its spare room too; answers are new memory, none of them shares any with another one or with the model, and the same is answered again, whatever is done to them. nil and an empty list are one.
func TestAnswersAreNew(t *testing.T) {
	r := rand.New(rand.NewSource(21))
	models := []api.Model{{}, {Labels: 1}}
	for _, low := range lowers() {
		models = append(models, low)
	}
	for range 300 {
		m := anyModel(r)
		switch r.Intn(3) {
		case 0:
			mend(r, &m)
		case 1:
			bent(r, &m)
		}
		models = append(models, m)
	}
	for _, m := range models {
		before := told(m)
		m = model.Own(m)
		widen(reflect.ValueOf(&m).Elem())
		laid := lay(reflect.ValueOf(m))
		first, second := Check(m), Check(m)
		again := slices.Clone(second)
		fill(first, api.Fault{Rule: 99, At: 99})
		if !slices.Equal(second, again) {
			t.Fatal("two answers of Check share memory")
		}
		var lists [][]int
		for range 2 {
			lifted, _ := Lift(m)
			lists = append(lists, lifted)
			for level := range 8 {
				lists = append(lists, Releases(m, level))
			}
		}
		for i, list := range lists {
			fill(list, 100+i)
		}
		for i, list := range lists {
			if !isFull(list, 100+i) {
				t.Fatal("lists share memory")
			}
		}
		if lay(reflect.ValueOf(m)) != laid {
			t.Fatal("what was handed in became another one")
		}
		if after := told(m); after != before {
			t.Fatal("another answer: ", after, before)
		}
	}
}
