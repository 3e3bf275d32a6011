package core_test

import (
	"math/rand"
	"slices"
	"testing"

	"fletch/api"
	"fletch/state"
	"fletch/tree"
)

// checkLaws holds a state and the one behind an event against the promises P15.2 to P15.5.
func checkLaws(t *testing.T, m model, was api.State, ev api.Event, is api.State) {
	t.Helper()
	if broken := m.broken(is); len(broken) > 0 {
		t.Fatalf("%+v of %+v leads to a state that can't be: %q: %+v", ev, brief(was), broken, brief(is))
	}
	for obj := range was.Objs {
		if ev.Kind != datagram && having(was, obj) != having(is, obj) {
			t.Fatalf("%+v of %+v: an object is lost or made: %+v", ev, brief(was), brief(is))
		}
		if notWaiting(is.Objs[obj]) > 1 {
			t.Fatalf("%+v of %+v: two have it: %+v", ev, brief(was), brief(is))
		}
	}
	kind := ev.Gram.Msg.Kind
	if ev.Kind == locate || ev.Kind == datagram && (kind == seek || kind == tell) {
		if !slices.EqualFunc(was.Objs, is.Objs, sameOwn) {
			t.Fatalf("%+v of %+v changes an arrow or a cell: %+v", ev, brief(was), brief(is))
		}
	}
	if ev.Kind == datagram && !tells(was, ev.Gram) && !same(was, is) {
		t.Fatalf("%+v says nothing new, but changes %+v to %+v", ev, brief(was), brief(is))
	}
}

// having: the cells of an object that aren't waiting, and the Passes for it.
func having(s api.State, obj int) int {
	n := notWaiting(s.Objs[obj])
	for _, e := range s.Edges {
		for _, x := range e.Out {
			if x.Kind == pass && x.Obj == obj {
				n++
			}
		}
	}
	return n
}

func notWaiting(o api.Own) int {
	n := 0
	for _, c := range o.Cells {
		if c.State != waits {
			n++
		}
	}
	return n
}

// tells: whether the datagram says something new.
func tells(s api.State, g api.Gram) bool {
	e := s.Edges[slices.IndexFunc(s.Edges, func(e api.Edge) bool { return e.Peer == g.From })]
	return g.Ack > e.Base && g.Ack <= e.Base+len(e.Out) || g.Seq == e.Seen+1
}

// wide goes over states that can be, of any shape, over many trees.
func wide(t *testing.T, seed int64, each int, visit func(r *rand.Rand, x *tree.Tree, m model, s api.State)) {
	someTrees(t, seed, func(r *rand.Rand, x *tree.Tree, m model) {
		for i := range each {
			s := someGood(r, m, r.Intn(m.size()))
			if i%8 == 0 {
				crowded(r, m, s)
			}
			visit(r, x, m, s)
		}
	})
}

// P15.1 to P15.5: any states that can be, also those to which no run leads, and events near to what matters to them.
func TestEventsOfAnyStates(t *testing.T) {
	seen := map[[2]int]int{}
	wide(t, 41, 60, func(r *rand.Rand, x *tree.Tree, m model, s api.State) {
		for range 20 {
			ev := someEvent(r, m, s)
			is, _, e := checkApply(t, x, m, s, ev)
			seen[[2]int{ev.Kind, int(e)}]++
			if e == api.OK {
				checkLaws(t, m, s, ev, is)
			}
		}
	})
	for _, what := range [][2]int{{acquire, 0}, {acquire, 21}, {acquire, 23}, {release, 0}, {release, 22}, {release, 23}, {locate, 0}, {locate, 21}, {locate, 23}, {datagram, 0}, {datagram, 23}} {
		if seen[what] < 5 {
			t.Errorf("just %d times: the event %d with the answer %d", seen[what], what[0], what[1])
		}
	}
}

// P15.2: one event behind the other, with no peers that would answer: every state on the way can be.
func TestManyEventsOfOneNode(t *testing.T) {
	wide(t, 42, 8, func(r *rand.Rand, x *tree.Tree, m model, s api.State) {
		for range 100 {
			ev := someEvent(r, m, s)
			is, _, e := checkApply(t, x, m, s, ev)
			if e == api.OK {
				checkLaws(t, m, s, ev, is)
				s = is
			}
		}
		if !state.Good(x, s) {
			t.Fatalf("%+v", brief(s))
		}
	})
}

// small goes over many small states of a node of the tree of the parents -1, 0, 0 that can be.
func small(m model, me int, visit func(s api.State)) {
	var cells [][]api.Cell
	one := cellsOf([]int{0, 1, 2}, []int{waits, holds, rests})
	for n := range 3 {
		everyList(n, one, func(cs []api.Cell) { cells = append(cells, slices.Clone(cs)) })
	}
	asks := [][]api.Ask{nil, {{Num: 1}}, {{Num: 1}, {Num: 2}}}
	outs := [][]api.Msg{nil, {msg(pass, 0, 2, 1, 0)}}
	for arrow := range 3 {
		for _, cs := range cells {
			for i, a := range asks {
				s := api.State{Me: me, Objs: []api.Own{{Arrow: arrow, Made: 2, Cells: cs}}, Asked: 2, Asks: a}
				for _, peer := range m.neighbours(me) {
					s.Edges = append(s.Edges, api.Edge{Peer: peer, Base: 1, Out: outs[i%2], Seen: 1})
				}
				if m.good(s) {
					visit(s)
				}
			}
		}
	}
}

func cellsOf(nums, states []int) []api.Cell {
	var out []api.Cell
	for _, num := range nums {
		for _, s := range states {
			out = append(out, cell(num, s, -1, 0))
			for node := range 3 {
				out = append(out, cell(num, s, node, 1), cell(num, s, node, 2))
			}
		}
	}
	return out
}

// smallEvents: those that small states may meet, and some that can't be.
func smallEvents(me int) []api.Event {
	var out []api.Event
	for _, kind := range []int{-1, 0, acquire, release, locate, 5} {
		for obj := -1; obj < 2; obj++ {
			out = append(out, call(kind, obj))
		}
	}
	for from := range 3 {
		for ack := range 4 {
			out = append(out, comes(from, me, ack, 0, api.Msg{}), comes(from, me, ack, 0, msg(find, 0, 0, 1, 0)))
		}
		for kind := find; kind <= tell; kind++ {
			for node := range 4 {
				for num := range 4 {
					out = append(out, comes(from, me, 1+num%2, 2, msg(kind, 0, node, num, 0)), comes(from, me, 2, 1+node%3, msg(kind, 0, node, num, 2)))
				}
			}
		}
	}
	return out
}

// P15.1 to P15.5: every small state with every small event.
func TestEverySmallStateAndEvent(t *testing.T) {
	x, m := made(t, -1, 0, 0)
	done, states := 0, 0
	for me := range 3 {
		events := smallEvents(me)
		small(m, me, func(s api.State) {
			states++
			for _, ev := range events {
				is, _, e := checkApply(t, x, m, s, ev)
				if e == api.OK {
					done++
					checkLaws(t, m, s, ev, is)
				}
			}
		})
	}
	if states < 300 || done < 50000 {
		t.Errorf("just %d states, and %d events that weren't refused", states, done)
	}
}

// P15.5: word that says nothing new, and numbers that aren't the next one, change nothing, up to the limits.
func TestNothingNew(t *testing.T) {
	wide(t, 43, 20, func(r *rand.Rand, x *tree.Tree, m model, s api.State) {
		for _, e := range s.Edges {
			last := e.Base + len(e.Out)
			for _, ack := range []int{0, e.Base - 1, e.Base, last + 1, last + 2, greatestNum} {
				for _, seq := range []int{0, e.Seen - 1, e.Seen, e.Seen + 2, greatestNum} {
					fits := !beyond(ack, 0, greatestNum) && !beyond(seq, 0, greatestNum)
					news := ack > e.Base && ack <= last || seq == e.Seen+1
					if !fits || news {
						continue
					}
					g := api.Msg{}
					if seq > 0 {
						g = aimed(r, m, s)
					}
					checkState(t, "nothing new", applied(t, x, m, s, comes(e.Peer, s.Me, ack, seq, g)), s)
				}
			}
		}
	})
}

// P15.4: locates, and their messages, whatever they find, leave arrows and cells as they are.
func TestLocatesLeaveObjects(t *testing.T) {
	wide(t, 44, 20, func(r *rand.Rand, x *tree.Tree, m model, s api.State) {
		for obj := range s.Objs {
			if is, _, e := checkApply(t, x, m, s, call(locate, obj)); e == api.OK {
				checkLaws(t, m, s, call(locate, obj), is)
			}
		}
		for _, e := range s.Edges {
			g := aimed(r, m, s)
			for g.Kind != seek && g.Kind != tell {
				g = aimed(r, m, s)
			}
			ev := comes(e.Peer, s.Me, e.Base, min(e.Seen+1, greatestNum), g)
			if is, _, f := checkApply(t, x, m, s, ev); f == api.OK {
				checkLaws(t, m, s, ev, is)
			}
		}
	})
}
