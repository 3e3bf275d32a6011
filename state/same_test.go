package state_test

import (
	"math"
	"math/rand"
	"testing"

	"fletch/api"
	"fletch/state"
	"fletch/tree"
)

// full answers a state of which each list has two entries and each number is another one; not one that can be.
func full() api.State {
	s := api.State{
		Objs:  []api.Own{{Cells: make([]api.Cell, 2)}, {Cells: make([]api.Cell, 2)}},
		Edges: []api.Edge{{Out: make([]api.Msg, 2)}, {Out: make([]api.Msg, 2)}},
		Asks:  make([]api.Ask, 2),
		Got:   make([]api.Found, 2),
	}
	for i, at := range numbers(&s) {
		*at = 100 + i
	}
	return s
}

// wide answers states of many kinds: some that can be, and ones that can't.
func wide(t *testing.T, seed int64, visit func(s api.State)) {
	visit(api.State{})
	visit(full())
	visit(api.State{Me: -1, Asked: math.MinInt, Objs: make([]api.Own, 9), Edges: make([]api.Edge, 3), Asks: make([]api.Ask, 5), Got: make([]api.Found, 5)})
	someTrees(t, seed, func(r *rand.Rand, _ *tree.Tree, m model) {
		for range 2 {
			visit(someGood(r, m, r.Intn(m.size())))
		}
	})
}

// P14.3: of a state and its copy Same is true, and of itself.
func TestSameAsItsCopy(t *testing.T) {
	wide(t, 51, func(s api.State) {
		c := state.Copy(s)
		checkState(t, "Copy", c, s)
		if !state.Same(s, c) || !state.Same(c, s) || !state.Same(s, s) || !state.Same(apart(s), c) {
			t.Fatalf("Same(%+v, %+v) is false", s, c)
		}
	})
}

// P14.3: where any one field is another one it is false, also if the other number is near, far, or the same in its lower bits.
func TestSameTurned(t *testing.T) {
	wide(t, 52, func(s api.State) {
		c := state.Copy(s)
		for i, at := range numbers(&c) {
			was := *at
			for _, x := range []int{was + 1, was - 1, -was, was ^ math.MinInt, was + 1<<32, 0, math.MaxInt} {
				*at = x
				if state.Same(s, c) != (x == was) || state.Same(c, s) != (x == was) {
					t.Fatalf("the number %d of %+v is %d", i, s, x)
				}
			}
			*at = was
		}
		if !checkSame(t, s, c) {
			t.Fatalf("%+v isn't what it was: %+v", c, s)
		}
	})
}

// P14.3: nor is it true where a list is another one.
func TestSameReshaped(t *testing.T) {
	wide(t, 53, func(s api.State) {
		for _, c := range reshaped(s) {
			checkSame(t, s, c)
		}
	})
	s := full()
	for i, c := range reshaped(s) {
		if state.Same(s, c) {
			t.Errorf("the list changed in the way %d: Same(%+v, %+v)", i, s, c)
		}
	}
}

// P14.3: what stands in one list isn't taken for what stands in another.
func TestSameOfOtherPlaces(t *testing.T) {
	one, two := []api.Cell{cell(1, 1, 1, 1)}, []api.Cell{cell(1, 1, 1, 1), cell(1, 1, 1, 1)}
	word := []api.Msg{{Kind: 1, Obj: 1, Node: 1, Num: 1}}
	rows := []api.State{
		{Objs: []api.Own{{}, {}}},
		{Objs: []api.Own{{Cells: one}, {}}},
		{Objs: []api.Own{{}, {Cells: one}}},
		{Objs: []api.Own{{Cells: one}, {Cells: one}}},
		{Objs: []api.Own{{Cells: two}, {}}},
		{Objs: []api.Own{{Cells: one}}},
		{Edges: []api.Edge{{}, {}}},
		{Edges: []api.Edge{{Out: word}, {}}},
		{Edges: []api.Edge{{}, {Out: word}}},
		{Edges: []api.Edge{{Out: word}, {Out: word}}},
		{Edges: []api.Edge{{Out: word}}},
		{Asks: []api.Ask{{}}},
		{Got: []api.Found{{}}},
		{Asks: []api.Ask{{}, {}}},
		{Got: []api.Found{{}, {}}},
		{},
	}
	for i, a := range rows {
		for j, b := range rows {
			if checkSame(t, a, state.Copy(b)) != (i == j) {
				t.Errorf("Same(%+v, %+v)", a, b)
			}
		}
	}
}

// P14.1: an empty list is alike to none, in each place; and so they mean the same to Good.
func TestEmptyListsAreNone(t *testing.T) {
	x, m := made(t, -1, 0)
	a := begun(t, x, []int{1}, 0)
	b := api.State{
		Objs:  []api.Own{{Arrow: 1, Cells: []api.Cell{}}},
		Edges: []api.Edge{{Peer: 1, Out: []api.Msg{}}},
		Asks:  []api.Ask{},
		Got:   []api.Found{},
	}
	a.Objs[0].Cells, a.Edges[0].Out, a.Asks, a.Got = nil, nil, nil, nil
	for _, s := range []api.State{a, b, state.Copy(a), state.Copy(b)} {
		if !checkSame(t, a, s) || !checkSame(t, b, s) || len(checkGood(t, x, m, s)) > 0 || state.Open(s) != 0 {
			t.Errorf("%+v", s)
		}
	}
	if !state.Same(api.State{}, api.State{Objs: []api.Own{}, Edges: []api.Edge{}, Asks: []api.Ask{}, Got: []api.Found{}}) {
		t.Error("no lists and empty ones")
	}
}

// P14.3: it is an equality: it leads there and back, and on, over states few of which differ.
func TestSameIsAnEquality(t *testing.T) {
	r := rand.New(rand.NewSource(54))
	_, m := made(t, -1, 0, 0)
	s := someGood(r, m, 0)
	rows := append(reshaped(s), apart(s), api.State{}, full())
	for _, c := range reshaped(apart(s)) {
		rows = append(rows, c)
	}
	pairs := 0
	for _, a := range rows {
		for _, b := range rows {
			if !checkSame(t, a, b) {
				continue
			}
			pairs++
			for _, c := range rows {
				if state.Same(b, c) && !state.Same(a, c) {
					t.Fatalf("%+v, %+v, %+v", a, b, c)
				}
			}
		}
	}
	if pairs <= len(rows) {
		t.Errorf("just %d pairs are the same", pairs)
	}
}
