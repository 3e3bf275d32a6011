package state_test

import (
	"math"
	"math/rand"
	"slices"
	"testing"

	"fletch/api"
	"fletch/state"
	"fletch/tree"
)

// limit is one change of a state that can be, and whether it can be then.
type limit struct {
	what   string
	good   bool
	change func(s *api.State)
}

// checkLimits changes a state of the node 1 of the document's tree, whose neighbours are 0 and 3, with two objects.
func checkLimits(t *testing.T, limits []limit) {
	t.Helper()
	x, m := made(t, -1, 0, 0, 1)
	base := api.State{
		Me: 1,
		Objs: []api.Own{
			{Arrow: 1, Made: 7, Cells: []api.Cell{cell(5, holds, 1, 6), cell(6, waits, -1, 0)}},
			{Arrow: 3, Made: 9, Cells: []api.Cell{cell(8, waits, 2, 4)}},
		},
		Edges: []api.Edge{{Peer: 0, Base: 3, Out: []api.Msg{{Kind: 4, Obj: 1, Node: 2, Num: 5, Where: 3}}, Seen: 2}, {Peer: 3}},
		Asked: 6,
		Asks:  []api.Ask{{Obj: 1, Num: 2}, {Obj: 0, Num: 6}},
		Got:   []api.Found{{Obj: 1, Num: 6, Where: 3}, {Obj: 1, Num: 1, Where: 0}},
	}
	if broken := checkGood(t, x, m, base); len(broken) > 0 {
		t.Fatalf("%q", broken)
	}
	for _, l := range limits {
		s := apart(base)
		l.change(&s)
		if broken := checkGood(t, x, m, s); (len(broken) == 0) != l.good {
			t.Errorf("%s: broken are: %q", l.what, broken)
		}
	}
}

// P14.1: what one change alone makes of the node, its objects and their cells, at each of the chapter's limits.
func TestLimitsOfObjects(t *testing.T) {
	const most = greatestNum
	more := func(s *api.State, many int) {
		s.Objs = append(s.Objs, slices.Repeat([]api.Own{{Arrow: 3}}, many)...)
	}
	checkLimits(t, []limit{
		{"Me below", false, func(s *api.State) { s.Me = -1 }},
		{"Me is no node", false, func(s *api.State) { s.Me = 4 }},
		{"no objects", false, func(s *api.State) { s.Objs, s.Asks, s.Got, s.Edges[0].Out = nil, nil, nil, nil }},
		{"eight objects", true, func(s *api.State) { more(s, 6) }},
		{"nine objects", false, func(s *api.State) { more(s, 7) }},
		{"an arrow to the other neighbour", true, func(s *api.State) { s.Objs[1].Arrow = 0 }},
		{"an arrow to no neighbour", false, func(s *api.State) { s.Objs[1].Arrow = 2 }},
		{"an arrow to no node", false, func(s *api.State) { s.Objs[1].Arrow = 4 }},
		{"an arrow below", false, func(s *api.State) { s.Objs[1].Arrow = -1 }},
		{"a sink's cells without a sink", false, func(s *api.State) { s.Objs[0].Arrow = 0 }},
		{"a sink without a last cell", false, func(s *api.State) { s.Objs[1].Arrow = 1 }},
		{"a sink without cells", false, func(s *api.State) { s.Objs[0].Cells = nil }},
		{"no sink without cells", true, func(s *api.State) { s.Objs[1].Cells = nil }},
		{"nothing made, no cells", true, func(s *api.State) { s.Objs[1] = api.Own{Arrow: 3} }},
		{"Made below, no cells", false, func(s *api.State) { s.Objs[1] = api.Own{Arrow: 3, Made: -1} }},
		{"Made is the last number", true, func(s *api.State) { s.Objs[0].Made = 6 }},
		{"Made is one less", false, func(s *api.State) { s.Objs[0].Made = 5 }},
		{"Made is the greatest", true, func(s *api.State) { s.Objs[0].Made = most }},
		{"Made is too great", false, func(s *api.State) { s.Objs[0].Made = most + 1 }},
		{"number 0 rests, nothing made", true, func(s *api.State) { s.Objs[0] = api.Own{Arrow: 1, Cells: []api.Cell{cell(0, rests, -1, 0)}} }},
		{"number 1 rests, nothing made", false, func(s *api.State) { s.Objs[0] = api.Own{Arrow: 1, Cells: []api.Cell{cell(1, rests, -1, 0)}} }},
		{"the last node as a successor's", true, func(s *api.State) { s.Objs[1].Cells[0].Node = 3 }},
		{"no node of the tree as a successor's", false, func(s *api.State) { s.Objs[1].Cells[0].Node = 4 }},
		{"nor of the first of two", false, func(s *api.State) { s.Objs[0].Cells[0] = cell(5, holds, 4, 9) }},
		{"another node's request as the first's successor", true, func(s *api.State) { s.Objs[0].Cells[0] = cell(5, holds, 3, 9) }},
		{"a successor here that isn't the next one", false, func(s *api.State) { s.Objs[0].Cells[0].Next = 7 }},
		{"numbers that don't rise", false, func(s *api.State) { s.Objs[0].Cells[1].Num, s.Objs[0].Cells[0].Next = 5, 5 }},
	})
}

// P14.1: and of the sides of its edges.
func TestLimitsOfEdges(t *testing.T) {
	const most = greatestNum
	checkLimits(t, []limit{
		{"one edge too few", false, func(s *api.State) { s.Edges = s.Edges[:1] }},
		{"no edges", false, func(s *api.State) { s.Edges = nil }},
		{"one edge too many", false, func(s *api.State) { s.Edges = append(s.Edges, api.Edge{Peer: 3}) }},
		{"an edge of another one", false, func(s *api.State) { s.Edges[1].Peer = 2 }},
		{"the same edge twice", false, func(s *api.State) { s.Edges[1] = s.Edges[0] }},
		{"edges that fall", false, func(s *api.State) { slices.Reverse(s.Edges) }},
		{"a Base below", false, func(s *api.State) { s.Edges[1].Base = -1 }},
		{"the greatest Base", true, func(s *api.State) { s.Edges[1].Base = most }},
		{"a Base too great", false, func(s *api.State) { s.Edges[1].Base = most + 1 }},
		{"the greatest Base ahead of a message", true, func(s *api.State) { s.Edges[0].Base = most - 1 }},
		{"a Base too great ahead of a message", false, func(s *api.State) { s.Edges[0].Base = most }},
		{"a Seen below", false, func(s *api.State) { s.Edges[1].Seen = -1 }},
		{"the greatest Seen", true, func(s *api.State) { s.Edges[1].Seen = most }},
		{"a Seen too great", false, func(s *api.State) { s.Edges[1].Seen = most + 1 }},
		{"as many messages as there can be", true, func(s *api.State) { s.Edges[0].Out = slices.Repeat(s.Edges[0].Out, mostOut) }},
		{"one message more", false, func(s *api.State) { s.Edges[0].Out = slices.Repeat(s.Edges[0].Out, mostOut+1) }},
		{"a message of no kind", false, func(s *api.State) { s.Edges[0].Out[0].Kind = 5 }},
		{"a message that isn't the Tell that it was", false, func(s *api.State) { s.Edges[0].Out[0].Kind = 1 }},
		{"a message of another object", false, func(s *api.State) { s.Edges[0].Out[0].Obj = 2 }},
		{"a message of an object below", false, func(s *api.State) { s.Edges[0].Out[0].Obj = -1 }},
		{"a message of another node", false, func(s *api.State) { s.Edges[0].Out[0].Node = 4 }},
		{"a message of number 0", false, func(s *api.State) { s.Edges[0].Out[0].Num = 0 }},
		{"a message of another place", false, func(s *api.State) { s.Edges[0].Out[0].Where = 4 }},
		{"a second message that can't be meant", false, func(s *api.State) {
			s.Edges[0].Out = append(s.Edges[0].Out, api.Msg{Kind: 1, Obj: 2, Num: 1})
		}},
		{"one on the second edge", false, func(s *api.State) { s.Edges[1].Out = []api.Msg{{Kind: 1, Node: 4, Num: 1}} }},
	})
}

// P14.1: and of its locates.
func TestLimitsOfLocates(t *testing.T) {
	const most = greatestNum
	checkLimits(t, []limit{
		{"nothing asked", true, func(s *api.State) { s.Asked, s.Asks, s.Got = 0, nil, nil }},
		{"Asked below", false, func(s *api.State) { s.Asked, s.Asks, s.Got = -1, nil, nil }},
		{"the greatest Asked", true, func(s *api.State) { s.Asked = most }},
		{"Asked is too great", false, func(s *api.State) { s.Asked = most + 1 }},
		{"four open locates", true, func(s *api.State) { s.Asks = []api.Ask{{Num: 1}, {Num: 2}, {Num: 3}, {Num: 6}} }},
		{"five open locates", false, func(s *api.State) { s.Asks = []api.Ask{{Num: 1}, {Num: 2}, {Num: 3}, {Num: 4}, {Num: 6}} }},
		{"a locate of no object", false, func(s *api.State) { s.Asks[1].Obj = 2 }},
		{"a locate of an object below", false, func(s *api.State) { s.Asks[0].Obj = -1 }},
		{"the locate 1", true, func(s *api.State) { s.Asks[0].Num = 1 }},
		{"the locate 0", false, func(s *api.State) { s.Asks[0].Num = 0 }},
		{"a locate that wasn't asked", false, func(s *api.State) { s.Asks[1].Num = 7 }},
		{"a locate twice", false, func(s *api.State) { s.Asks[0].Num = 6 }},
		{"locates that fall", false, func(s *api.State) { slices.Reverse(s.Asks) }},
		{"four answers", true, func(s *api.State) { s.Got = slices.Repeat(s.Got, 2) }},
		{"five answers", false, func(s *api.State) { s.Got = append(slices.Repeat(s.Got, 2), s.Got[0]) }},
		{"an answer of no object", false, func(s *api.State) { s.Got[1].Obj = 2 }},
		{"an answer of an object below", false, func(s *api.State) { s.Got[1].Obj = -1 }},
		{"an answer of number 0", false, func(s *api.State) { s.Got[1].Num = 0 }},
		{"an answer that wasn't asked", false, func(s *api.State) { s.Got[0].Num = 7 }},
		{"an answer of no node", false, func(s *api.State) { s.Got[0].Where = 4 }},
		{"an answer below", false, func(s *api.State) { s.Got[0].Where = -1 }},
		{"an answer of a locate that is open", true, func(s *api.State) { s.Got[0].Num = 2 }},
	})
}

// P14.1: open are at most eight, of all objects together, wherever they are; what rests isn't.
func TestOpenOfAllObjects(t *testing.T) {
	x, m := made(t, -1, 0)
	own := func(arrow, open int) api.Own {
		o := api.Own{Arrow: arrow, Made: 20}
		for num := range open {
			o.Cells = append(o.Cells, cell(1+num, waits, 1, 30))
		}
		if arrow == 0 && open > 0 {
			o.Cells[open-1] = cell(open, waits, -1, 0)
		}
		if arrow == 0 && open == 0 {
			o.Cells = []api.Cell{cell(4, rests, -1, 0)}
		}
		return o
	}
	for _, arrows := range [][]int{{0, 0, 0}, {1, 1, 1}, {0, 1, 0}} {
		everyList(3, []int{0, 1, 2, 3, 4, 6, 7, 8, 9, 10}, func(open []int) {
			s := api.State{Edges: []api.Edge{{Peer: 1}}}
			for i, arrow := range arrows {
				s.Objs = append(s.Objs, own(arrow, open[i]))
			}
			for _, held := range []int{0, 1, 2} {
				if open[held] > 0 {
					s.Objs[held].Cells[0].State = holds
				}
				if fine := len(checkGood(t, x, m, s)) == 0; fine != (open[0]+open[1]+open[2] <= 8) {
					t.Fatalf("%v open: Good: %v", open, fine)
				}
			}
		})
	}
}

// P14.1: whatever stands in one object's arrow, number and cell, over a tree of two nodes, of every row of values around their limits.
func TestGoodOfEveryObject(t *testing.T) {
	x, m := made(t, -1, 0)
	small := everyCell([]int{-1, 0, 1, 2}, []int{0, 1, 2, 3, 4}, []int{-2, -1, 0, 1, 2, 31}, []int{-1, 0, 1, 2})
	good := 0
	check := func(me, arrow, made int, cells []api.Cell) {
		s := api.State{Me: me, Objs: []api.Own{{Arrow: arrow, Made: made, Cells: cells}}, Edges: []api.Edge{{Peer: 1 - me}}}
		if len(checkGood(t, x, m, s)) == 0 {
			good++
		}
	}
	for _, me := range []int{0, 1} {
		for _, arrow := range []int{-1, 0, 1, 2} {
			for _, made := range []int{-1, 0, 1, 2} {
				for n := range 2 {
					everyList(n, small, func(cells []api.Cell) { check(me, arrow, made, cells) })
				}
			}
			two := everyCell([]int{1, 2}, []int{1, 2, 3}, []int{-1, 0, 1, 2}, []int{0, 1, 2})
			everyList(2, two, func(cells []api.Cell) { check(me, arrow, 2, cells) })
		}
	}
	if good < 50 {
		t.Errorf("just %d can be", good)
	}
}

// P14.1: every node of every small tree, with every list of sides of up to three.
func TestGoodOfEverySide(t *testing.T) {
	everyTree(t, 4, func(x *tree.Tree, m model) {
		places := append(m.nodes(), -1, m.size())
		for n := range 4 {
			everyList(n, places, func(peers []int) {
				for _, me := range places {
					s := api.State{Me: me, Objs: []api.Own{{Arrow: me, Cells: []api.Cell{cell(0, rests, -1, 0)}}}}
					for _, peer := range peers {
						s.Edges = append(s.Edges, api.Edge{Peer: peer})
					}
					fine := len(checkGood(t, x, m, s)) == 0
					if fine != (m.has(me) && slices.Equal(peers, m.neighbours(me))) {
						t.Fatalf("%d with %v over %v: %v", me, peers, m.far, fine)
					}
				}
			})
		}
	})
}

// P14.1: states that can be, with any one number turned, or any one list: each of the chapter's conditions is broken by itself.
func TestGoodOfTurnedStates(t *testing.T) {
	alone := map[string]int{}
	check := func(x *tree.Tree, m model, s api.State) {
		if broken := checkGood(t, x, m, s); len(broken) == 1 {
			alone[broken[0]]++
		}
	}
	someTrees(t, 61, func(r *rand.Rand, x *tree.Tree, m model) {
		for range 6 {
			s := someGood(r, m, r.Intn(m.size()))
			if broken := checkGood(t, x, m, s); len(broken) > 0 {
				t.Fatalf("%+v should be one that can be; broken are: %q", s, broken)
			}
			for _, c := range reshaped(s) {
				check(x, m, c)
			}
			places := numbers(&s)
			for range 60 {
				at := places[r.Intn(len(places))]
				was := *at
				for _, *at = range around(was, m.size(), len(s.Objs)) {
					check(x, m, s)
				}
				*at = was
			}
			for i := range s.Edges {
				s.Edges[i].Base, s.Edges[i].Out = 0, slices.Repeat([]api.Msg{someMessage(r, m, len(s.Objs))}, mostOut+r.Intn(2))
			}
			check(x, m, s)
			s = someGood(r, m, s.Me)
			s.Asked, s.Asks = 4+r.Intn(3), nil
			for num := 1; num <= s.Asked; num++ {
				s.Asks = append(s.Asks, api.Ask{Num: num})
			}
			check(x, m, s)
		}
	})
	for _, c := range append(clauses(), clause{what: "Me is a node"}) {
		if alone[c.what] == 0 {
			t.Errorf("%q was broken by no state alone", c.what)
		}
	}
}

// P14.1: states that can be over one tree can't be over another one whose edges or nodes are others.
func TestGoodOverAnotherTree(t *testing.T) {
	line, m := made(t, -1, 0, 1, 2)
	star, n := made(t, -1, 0, 0, 0)
	short, o := made(t, -1, 0, 1)
	turned, p := made(t, 1, 2, 3, -1) // the line with another root
	r := rand.New(rand.NewSource(62))
	for range 300 {
		s := someGood(r, m, r.Intn(4))
		if len(checkGood(t, line, m, s)) > 0 || len(checkGood(t, turned, p, s)) > 0 {
			t.Fatalf("%+v over the line", s)
		}
		checkGood(t, short, o, s)
		if len(checkGood(t, star, n, s)) == 0 {
			t.Fatalf("%+v over the star", s)
		}
	}
}

// P14.1: states without limits, of which nearly nothing can be: no call minds.
func TestCallsOfWildStates(t *testing.T) {
	x, m := made(t, -1, 0, 0)
	r := rand.New(rand.NewSource(63))
	wild := []int{math.MinInt, -1, 0, 1, 2, 3, greatestNum, greatestNum + 1, math.MaxInt}
	for range 3000 {
		s := full()
		for range r.Intn(4) {
			rows := reshaped(s)
			s = rows[r.Intn(len(rows))]
		}
		for _, at := range numbers(&s) {
			*at = wild[r.Intn(len(wild))]
		}
		checkGood(t, x, m, s)
		if state.Open(s) != modelOpen(s) || !checkSame(t, s, state.Copy(s)) {
			t.Fatalf("%+v", s)
		}
	}
}
