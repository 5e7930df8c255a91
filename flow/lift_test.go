package flow

import (
	"fmt"
	"slices"
	"testing"

	"bascule/api"
	"bascule/model"
)

// shaped is the bed with nodes at labels, each a task that leads to another one and by its Catch to a third one; below 0 it has no Catch, or it is an end.
func shaped(s shape, labels []int, next, catch []int) api.Model {
	m := bed(s)
	for i, a := range labels {
		n := laid(s, api.NTask, a)
		n.Next[0], n.Catch = next[i], catch[i]
		if next[i] < 0 {
			n = laid(s, api.NEnd, a)
		}
		m.Nodes = append(m.Nodes, n)
	}
	m.Nodes = append(m.Nodes, laid(s, api.NStart, s.bottom()))
	m.Nodes[len(labels)].Next[0] = 0
	return m
}

// checkLift wants the first nodes to be lifted to just these labels, the start to stay, and the labels of the document to be the same.
func checkLift(t *testing.T, what string, m api.Model, want ...int) {
	t.Helper()
	got, e := Lift(m)
	want = append(want, shape{m.Labels, m.Order}.bottom())
	if e != api.OK || !slices.Equal(got, want) {
		t.Errorf("%s: lifted to %v, error %d, not %v", what, got, e, want)
	}
	if told := raised(m); !slices.Equal(told, want) {
		t.Errorf("%s: by the document %v, not %v", what, told, want)
	}
}

// P16.2: labels that rise, that fall along a way, round a loop, and where ways come together.
func TestLift(t *testing.T) {
	s := shapes()["diamond"]
	none := []int{-1, -1, -1, -1}
	row := []int{1, 2, 3, -1}
	checkLift(t, "rising", shaped(s, []int{0, 0, 1, 3}, row, none), 0, 0, 1, 3)
	checkLift(t, "all the same", shaped(s, []int{2, 2, 2, 2}, row, none), 2, 2, 2, 2)
	checkLift(t, "falling at once", shaped(s, []int{3, 0, 1, 2}, row, none), 3, 3, 3, 3)
	checkLift(t, "falling at the end", shaped(s, []int{0, 0, 2, 0}, row, none), 0, 0, 2, 2)
	checkLift(t, "falling twice", shaped(s, []int{1, 0, 3, 0}, row, none), 1, 1, 3, 3)
	checkLift(t, "beside one another", shaped(s, []int{1, 2, 0, 0}, row, none), 1, 3, 3, 3)
	checkLift(t, "against the numbers", shaped(s, []int{0, 0, 0, 1}, []int{-1, 0, 1, 2}, none), 1, 1, 1, 1)
	checkLift(t, "round a loop", shaped(s, []int{0, 1, 0, 0}, []int{1, 2, 0, -1}, none), 1, 1, 1, 0)
	checkLift(t, "round a loop of labels beside one another", shaped(s, []int{1, 2, 0, 0}, []int{1, 2, 0, -1}, []int{-1, -1, 3, -1}), 3, 3, 3, 3)
	checkLift(t, "beside a loop", shaped(s, []int{0, 0, 0, 2}, []int{1, 2, 0, -1}, none), 0, 0, 0, 2)
	checkLift(t, "a loop of one", shaped(s, []int{1, 2, 0, 0}, []int{0, -1, -1, -1}, none), 1, 2, 0, 0)
	checkLift(t, "by Catch alone", shaped(s, []int{2, 0, 0, 0}, []int{1, -1, -1, -1}, []int{2, -1, -1, -1}), 2, 2, 2, 0)
	checkLift(t, "coming together", shaped(s, []int{0, 1, 2, 0}, []int{1, 3, 3, -1}, []int{2, -1, -1, -1}), 0, 1, 2, 3)
	checkLift(t, "coming together by Catch", shaped(s, []int{0, 1, 2, 0}, []int{2, 2, -1, -1}, []int{1, 3, -1, -1}), 0, 1, 3, 1)
	checkLift(t, "one label", shaped(shapes()["one"], []int{0, 0, 0, 0}, row, none), 0, 0, 0, 0)
	checkLift(t, "the bottom last", shaped(shapes()["two, turned"], []int{1, 0, 1, 1}, row, none), 1, 0, 0, 0)
	checkLift(t, "not to the top", shaped(shapes()["two beside one"], []int{4, 1, 4, 3}, []int{1, 2, -1, -1}, none), 4, 1, 1, 3)
	checkLift(t, "three beside one another", shaped(shapes()["three beside"], []int{1, 2, 0, 3}, []int{2, 2, -1, 2}, none), 1, 2, 4, 3)
	checkLift(t, "a corner of the cube", shaped(shapes()["cube"], []int{1, 2, 0, 4}, []int{2, 2, -1, -1}, none), 1, 2, 3, 4)
}

// P16.2: a start's own label leads on, and a start itself is never raised.
func TestLiftFromStarts(t *testing.T) {
	for what, s := range shapes() {
		for _, pair := range s.pairs() {
			m := with(s, laid(s, api.NPar, pair[1]))
			m.Nodes[start].Label = pair[0]
			m.Nodes[end].Label = s.bottom()
			got, e := Lift(m)
			if both := s.join(pair[:]...); e != api.OK || !slices.Equal(got, []int{pair[0], both, both}) {
				t.Error(what, pair, got, e)
			}
		}
	}
}

// P16.2: the labels of variables and messages, what is read, and grants are nothing to it.
func TestLiftLooksAtEdgesAlone(t *testing.T) {
	s := shapes()["diamond"]
	for _, kind := range allKinds() {
		m := with(s, laid(s, kind, 1))
		m.Grants = nil
		n := &m.Nodes[tested]
		n.Var, n.Msg = min(n.Var, 0), min(n.Msg, 2)
		for _, write := range places(*n) {
			write(n, sum(3))
		}
		if got, e := Lift(m); e != api.OK || !slices.Equal(got, []int{0, 1, 3}) {
			t.Error(kind, got, e)
		}
	}
}

// P16.2: a long way is lifted to its end.
func TestLiftFarAlong(t *testing.T) {
	s := shapes()["eight in a row"]
	m := bed(s)
	for i := range 39 {
		n := laid(s, api.NTimer, 7)
		n.Next[0] = (i + 38) % 39
		m.Nodes = append(m.Nodes, n)
	}
	m.Nodes = append(m.Nodes, laid(s, api.NStart, 7))
	m.Nodes[39].Next[0] = 20
	for a := range s.size {
		m.Nodes[20].Label = a
		want := append(slices.Repeat([]int{a}, 39), 7)
		if got, e := Lift(m); e != api.OK || !slices.Equal(got, want) {
			t.Error(a, got, e)
		}
	}
}

// releasing has a release at each label of the order given, other kinds between them, and no grants.
func releasing(s shape, labels ...int) api.Model {
	m := bed(s)
	m.Grants = nil
	for _, a := range labels {
		n := laid(s, api.NRelease, a)
		n.Next[0] = 1 + 2*len(labels)
		task := laid(s, api.NPar, s.bottom())
		task.Next[0] = n.Next[0]
		m.Nodes = append(m.Nodes, task, n)
	}
	m.Nodes = append(m.Nodes, laid(s, api.NStart, s.bottom()), laid(s, api.NEnd, s.top()))
	m.Nodes[2*len(labels)].Next[0] = 1 + 2*len(labels)
	return m
}

// P16.2: the releases at or below a level, in order, whether the model is accepted or not; none for a level that is no label.
func TestReleases(t *testing.T) {
	s := shapes()["diamond"]
	m := releasing(s, 3, 1, 0, 2, 1)
	for level, want := range [][]int{{5}, {3, 5, 9}, {5, 7}, {1, 3, 5, 7, 9}} {
		if got := Releases(m, level); !slices.Equal(got, want) {
			t.Error(level, got)
		}
	}
	for what, s := range shapes() {
		labels := []int{s.top(), s.bottom()}
		for a := range s.size {
			labels = append(labels, (a*3+1)%s.size, a)
		}
		m := releasing(s, labels...)
		if Accepts(m) {
			t.Error(what, "accepted")
		}
		for level := range s.size {
			var want []int
			for i, a := range labels {
				if s.leq(a, level) {
					want = append(want, 1+2*i)
				}
			}
			if got := Releases(m, level); !slices.Equal(got, want) {
				t.Error(what, level, got, want)
			}
		}
		for _, level := range wrongLabels(s.size) {
			if got := Releases(m, level); !s.has(level) && len(got) > 0 {
				t.Error(what, level, got)
			}
		}
	}
}

// P16.2: releases of any label by themselves, at each level.
func TestReleasesOfOne(t *testing.T) {
	lies := map[string]int{}
	for what, s := range shapes() {
		for _, pair := range s.pairs() {
			var want []int
			if s.leq(pair[0], pair[1]) {
				want = []int{1}
			}
			for from := range s.size { // where it comes from is nothing to it
				m := releasing(s, pair[0])
				m.Nodes[1].From = from
				if got := Releases(m, pair[1]); !slices.Equal(got, want) {
					t.Error(what, pair, from, got)
				}
			}
			lies[s.between(pair[0], pair[1])]++
		}
	}
	wantAll(t, lies)
}

// P16.2: models without releases have none, whatever else they have.
func TestNoReleases(t *testing.T) {
	for what, s := range shapes() {
		for _, kind := range allKinds() {
			m := with(s, laid(s, kind, s.bottom()))
			for level := range s.size {
				if got := Releases(m, level); len(got) > 0 && kind != api.NRelease {
					t.Error(what, kind, level, got)
				}
			}
		}
	}
	if got := Releases(api.Model{}, 0); len(got) > 0 {
		t.Error(got)
	}
}

// P16.3: labels that are all one let nothing down; only releases ask for more.
func TestAllOne(t *testing.T) {
	for what, s := range shapes() {
		for a := range s.size {
			for _, kind := range allKinds() {
				m := with(s, laid(s, kind, a))
				m.Grants = nil
				for i := range m.Vars {
					m.Vars[i].Label, m.Msgs[i].Label = a, a
				}
				for i := range m.Nodes {
					m.Nodes[i].Label = a
				}
				for _, write := range places(m.Nodes[tested]) {
					write(&m.Nodes[tested], sum(s.top(), s.bottom()))
				}
				checkOne(t, fmt.Sprint(what, ", kind ", kind, ", all at ", a), m, 6, kind == api.NRelease)
				if got, e := Lift(m); e != api.OK || !slices.Equal(got, []int{a, a, a}) {
					t.Error(what, kind, a, got, e)
				}
				broken := model.Own(m)
				broken.Vars[0].Init = api.Value{}
				if Accepts(broken) {
					t.Error(what, kind, a, "accepted though it isn't well formed")
				}
			}
		}
	}
}
