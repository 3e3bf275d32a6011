package state_test

import (
	"math"
	"math/rand"
	"slices"
	"testing"

	"fletch/api"
	"fletch/state"
	"fletch/tree"
)

// P14.1: the chapter's first example, word by word.
func TestFirstExample(t *testing.T) {
	x, _ := made(t, -1, 0)
	a, b := begun(t, x, []int{1}, 0), begun(t, x, []int{1}, 1)
	if a.Objs[0].Arrow != 1 || len(a.Objs[0].Cells) != 0 {
		t.Errorf("First of 0: %+v", a)
	}
	if b.Objs[0].Arrow != 1 || !slices.Equal(b.Objs[0].Cells, []api.Cell{cell(0, rests, -1, 0)}) {
		t.Errorf("First of 1: %+v", b)
	}
	for _, s := range []api.State{a, b} {
		if !state.Good(x, s) || len(s.Edges) != 1 {
			t.Errorf("%+v", s)
		}
	}
}

// P14.1: the chapter's second example.
func TestSecondExample(t *testing.T) {
	x, _ := made(t, -1, 0)
	for _, homes := range [][]int{nil, {}, {2}} {
		if s, e := state.First(x, homes, 0); e != api.ErrArg {
			t.Errorf("First(%v, 0): %+v, %d", homes, s, e)
		}
	}
}

// P14.1: where the nodes begin over the tree of the document's examples, word by word.
func TestFirstStates(t *testing.T) {
	x, _ := made(t, -1, 0, 0, 1)
	own := func(arrow int, cells ...api.Cell) api.Own { return api.Own{Arrow: arrow, Cells: cells} }
	home := cell(0, rests, -1, 0)
	for me, want := range []api.State{
		{Me: 0, Objs: []api.Own{own(2), own(1)}, Edges: []api.Edge{{Peer: 1}, {Peer: 2}}},
		{Me: 1, Objs: []api.Own{own(0), own(3)}, Edges: []api.Edge{{Peer: 0}, {Peer: 3}}},
		{Me: 2, Objs: []api.Own{own(2, home), own(0)}, Edges: []api.Edge{{Peer: 0}}},
		{Me: 3, Objs: []api.Own{own(1), own(3, home)}, Edges: []api.Edge{{Peer: 1}}},
	} {
		checkState(t, "First", begun(t, x, []int{2, 3}, me), want)
	}
}

// P14.1: of a tree of one node.
func TestFirstAlone(t *testing.T) {
	x, m := made(t, -1)
	for many := range 10 {
		checkFirst(t, x, m, make([]int, many), 0)
	}
	s := begun(t, x, []int{0}, 0)
	if !state.Good(x, s) || len(s.Edges) != 0 {
		t.Errorf("%+v", s)
	}
}

// P14.1, P14.2: First and Homes of every row of up to three homes over every small tree, at every number; what begins can be.
func TestFirstOverEveryTree(t *testing.T) {
	everyTree(t, 4, func(x *tree.Tree, m model) {
		places := append(m.nodes(), -1, m.size())
		for n := range 4 {
			everyList(n, places, func(homes []int) {
				for _, me := range places {
					if checkFirst(t, x, m, homes, me) == api.OK && len(checkGood(t, x, m, begun(t, x, homes, me))) > 0 {
						t.Fatalf("First(%v, %d) over %v can't be", homes, me, m.far)
					}
				}
			})
		}
	})
}

// P14.1, P14.2: and over greater ones, up to as many homes as there can be, and more.
func TestFirstOverSomeTrees(t *testing.T) {
	someTrees(t, 41, func(r *rand.Rand, x *tree.Tree, m model) {
		for many := range 12 {
			homes := make([]int, many)
			for i := range homes {
				homes[i] = r.Intn(m.size())
			}
			for _, me := range m.nodes() {
				e := checkFirst(t, x, m, homes, me)
				if fine := many >= 1 && many <= 8; fine != (e == api.OK) || fine && len(checkGood(t, x, m, begun(t, x, homes, me))) > 0 {
					t.Fatalf("First(%v, %d) over %v: %d", homes, me, m.far, e)
				}
			}
		}
	})
}

// P14.1: homes and nodes that aren't there, at each place.
func TestFirstOfStrangers(t *testing.T) {
	someTrees(t, 42, func(r *rand.Rand, x *tree.Tree, m model) {
		for _, stranger := range strangers(m.size()) {
			if e := checkFirst(t, x, m, []int{0}, stranger); e != api.ErrArg {
				t.Fatalf("First at %d: %d", stranger, e)
			}
			for many := 1; many <= 9; many++ {
				homes := make([]int, many)
				homes[r.Intn(many)] = stranger
				if e := checkFirst(t, x, m, homes, r.Intn(m.size())); e != api.ErrArg {
					t.Fatalf("First(%v): %d", homes, e)
				}
			}
		}
	})
}

// P14.1: of a nil tree that is told ahead of all else; nothing can be over it, and nothing be meant.
func TestNilTree(t *testing.T) {
	for _, homes := range [][]int{nil, {0}, {-1}, {5}, make([]int, 9)} {
		for _, me := range []int{-1, 0, 1, 99} {
			if e := checkFirst(t, nil, model{}, homes, me); e != api.ErrNil {
				t.Errorf("First(%v, %d) over none: %d", homes, me, e)
			}
		}
	}
	x, _ := made(t, -1)
	for _, s := range []api.State{{}, {Me: -1}, begun(t, x, []int{0}, 0)} {
		if state.Good(nil, s) {
			t.Errorf("Good(nil, %+v)", s)
		}
	}
	for _, g := range []api.Msg{{}, {Node: -1, Where: -1}, {Kind: 1, Num: 1}} {
		if checkMeant(t, nil, model{}, 1, g) {
			t.Errorf("Meant(nil, 1, %+v)", g)
		}
	}
}

// P14.1: Meant asks for the object, the node and the place, each at its limits, and for nothing else.
func TestMeant(t *testing.T) {
	someTrees(t, 43, func(r *rand.Rand, x *tree.Tree, m model) {
		meant := 0
		n := m.size()
		for _, objects := range []int{math.MinInt, math.MinInt + 1, -1, 0, 1, 2, 8, 9, 1 << 32, math.MaxInt} {
			for _, obj := range []int{math.MinInt, -1 << 32, -1, 0, 1, 2, 7, 8, 1 << 32, math.MaxInt - 1, math.MaxInt} {
				for _, node := range []int{math.MinInt, -1, 0, n / 2, n - 1, n, 1 << 32, math.MaxInt} {
					for _, where := range []int{math.MinInt, -1, 0, n - 1, n, 1 << 32, math.MaxInt} {
						g := api.Msg{Kind: r.Intn(7) - 1, Obj: obj, Node: node, Num: someNumber(r) - 1, Where: where}
						if checkMeant(t, x, m, objects, g) {
							meant++
						}
					}
				}
			}
		}
		if meant < 24 {
			t.Errorf("just %d are meant over %v", meant, m.far)
		}
	})
}

// P14.1: whether a message can be (layer 8) plays no part in whether it can be meant.
func TestMeantOfWhatCannotBe(t *testing.T) {
	x, _ := made(t, -1, 0)
	for _, g := range []api.Msg{{}, {Kind: 5}, {Kind: -1, Num: -1}, {Kind: 1, Num: greatestNum + 1}, {Kind: 1, Num: 1, Where: 1}, {Kind: 4, Where: 1}} {
		if !state.Meant(x, 1, g) {
			t.Errorf("Meant(1, %+v)", g)
		}
	}
	if !state.Meant(x, 9, api.Msg{Obj: 8}) || state.Meant(x, 8, api.Msg{Obj: 8}) || state.Meant(x, 0, api.Msg{}) {
		t.Error("Meant of the object 8")
	}
}

// P14.1: Open counts what waits and what holds, of all objects, of any state.
func TestOpen(t *testing.T) {
	numbers := []int{math.MinInt, -1, 0, waits, holds, rests, 4, 1 + 1<<32, math.MaxInt}
	everyList(3, numbers, func(states []int) {
		cells := make([]api.Cell, len(states))
		for i := range states {
			cells[i].State = states[i]
		}
		for split := range 4 {
			s := api.State{Objs: []api.Own{{Cells: cells[:split]}, {}, {Cells: cells[split:]}}}
			if got := state.Open(s); got != modelOpen(s) {
				t.Fatalf("Open of the states %v: %d", states, got)
			}
		}
	})
	for _, s := range []api.State{{}, {Objs: []api.Own{}}, {Objs: make([]api.Own, 20)}, {Asks: make([]api.Ask, 3)}} {
		if state.Open(s) != 0 {
			t.Errorf("Open(%+v): %d", s, state.Open(s))
		}
	}
	long := slices.Repeat([]api.Cell{cell(1, waits, 2, 3), cell(2, rests, -1, 0), cell(3, holds, -1, 0)}, 1000)
	if got := state.Open(api.State{Objs: slices.Repeat([]api.Own{{Cells: long}}, 20)}); got != 40000 {
		t.Errorf("Open of 60000 cells: %d", got)
	}
}

// P14.1: Open of states that can be, and of ones that can't.
func TestOpenOfSome(t *testing.T) {
	someTrees(t, 44, func(r *rand.Rand, x *tree.Tree, m model) {
		for range 20 {
			s := someGood(r, m, r.Intn(m.size()))
			for _, c := range append(reshaped(s), s) {
				if got := state.Open(c); got != modelOpen(c) {
					t.Fatalf("Open(%+v): %d", c, got)
				}
			}
		}
	})
}
