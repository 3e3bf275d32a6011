package core_test

import (
	"math"
	"math/rand"
	"slices"
	"testing"

	"fletch/api"
	"fletch/core"
	"fletch/tree"
)

// checkRefused: the answer is this error, beside it a state of zeros and the number 0.
func checkRefused(t *testing.T, what string, x *tree.Tree, s api.State, ev api.Event, want api.Errno) {
	t.Helper()
	got, num, e := core.Apply(x, s, ev)
	zero := got.Me == 0 && got.Asked == 0 && len(got.Objs)+len(got.Edges)+len(got.Asks)+len(got.Got) == 0
	if e != want || num != 0 || !zero {
		t.Errorf("%s: Apply(%+v): %+v, %d, %d, not the error %d", what, ev, brief(got), num, e, want)
	}
}

// P15.1: the chapter's third example, and the errors that it names, in their order: with all that could be refused later wrong too.
func TestErrorsInOrder(t *testing.T) {
	x, _ := made(t, -1, 0)
	good := begun(t, x, []int{1}, 1)
	bad := apart(good)
	bad.Objs[0].Made = -1
	many := apart(good)
	many.Objs[0] = api.Own{Arrow: 0, Made: greatestNum}
	many.Asked = greatestNum
	for num := 1; num <= 8; num++ {
		many.Objs[0].Cells = append(many.Objs[0].Cells, cell(num, waits, 0, 1))
	}
	many.Asks = []api.Ask{{Num: 1}, {Num: 2}, {Num: 3}, {Num: 4}}
	many.Edges[0].Base = greatestNum
	fewer := apart(many)
	fewer.Objs[0].Cells = fewer.Objs[0].Cells[:7]
	fewer.Asks = fewer.Asks[:3]
	room := apart(fewer)
	room.Objs[0].Made--
	room.Asked--
	for _, row := range []struct {
		what string
		x    *tree.Tree
		s    api.State
		ev   api.Event
		e    api.Errno
	}{
		{"a nil tree", nil, good, call(acquire, 0), 2},
		{"a nil tree, and all else", nil, bad, call(0, 9), 2},
		{"a nil tree, and no state", nil, api.State{}, comes(5, 5, -1, -1, api.Msg{}), 2},
		{"no state", x, api.State{}, call(acquire, 0), 24},
		{"a state that can't be, no such Kind", x, bad, call(5, 0), 24},
		{"a state that can't be, a datagram that can't come", x, bad, comes(1, 0, 0, 0, api.Msg{}), 24},
		{"a state that can't be, no such object", x, bad, call(locate, 1), 24},
		{"no such Kind", x, good, call(0, 0), 25},
		{"no such Kind, no such object", x, good, call(5, -1), 25},
		{"no such object", x, good, call(release, 1), 20},
		{"no such object, too many acquires", x, many, call(acquire, 1), 20},
		{"no such object, too many locates", x, many, call(locate, -1), 20},
		{"too many acquires, and the numbers end", x, many, call(acquire, 0), 21},
		{"too many locates, and the numbers end", x, many, call(locate, 0), 21},
		{"requests' numbers end, and there is no room", x, fewer, call(acquire, 0), 23},
		{"locates' numbers end, and there is no room", x, fewer, call(locate, 0), 23},
		{"no room for the Find", x, room, call(acquire, 0), 23},
		{"no room for the Seek", x, room, call(locate, 0), 23},
		{"not held, it rests", x, good, call(release, 0), 22},
		{"not held, one waits", x, many, call(release, 0), 22},
	} {
		checkRefused(t, row.what, row.x, row.s, row.ev, row.e)
	}
}

// P15.1: kinds and objects beyond those that there are, of every call.
func TestKindsAndObjects(t *testing.T) {
	x, m := made(t, -1, 0)
	s := begun(t, x, []int{0, 1, 0}, 0)
	numbers := []int{math.MinInt, -1 << 32, -2, -1, 0, 1, 2, 3, 4, 5, 6, 7, 8, 1 << 32, 1<<32 + 1, math.MaxInt}
	for _, kind := range numbers {
		for _, obj := range numbers {
			checkApply(t, x, m, s, call(kind, obj))
		}
	}
	checkRefused(t, "below", x, s, call(acquire, -1), 20)
	checkRefused(t, "above", x, s, call(acquire, 3), 20)
	for obj := range 3 {
		applied(t, x, m, s, call(acquire, obj))
		applied(t, x, m, s, call(locate, obj))
	}
}

// P15.1: of a call the Gram plays no part, of a datagram the Obj.
func TestWhatPlaysNoPart(t *testing.T) {
	wide(t, 51, 10, func(r *rand.Rand, x *tree.Tree, m model, s api.State) {
		for range 10 {
			ev := someEvent(r, m, s)
			want, wantNum, wantE := checkApply(t, x, m, s, ev)
			other := ev
			switch {
			case ev.Kind == datagram:
				other.Obj = []int{math.MinInt, -1, 1, 7, 8, math.MaxInt}[r.Intn(6)]
			default:
				other.Gram = api.Gram{From: r.Intn(5) - 2, To: r.Intn(5) - 2, Ack: -1, Seq: r.Intn(3), Msg: someMessage(r, m, 8)}
			}
			if got, num, e := core.Apply(x, s, other); e != wantE || num != wantNum || !same(got, want) {
				t.Fatalf("%+v: %+v, %d, %d, not %+v, %d, %d", other, brief(got), num, e, brief(want), wantNum, wantE)
			}
		}
	})
}

// P15.1: which datagrams can come to a node: each of their numbers, alone, at its limits.
func TestDatagramsThatCome(t *testing.T) {
	w, s := node(t, own(1, cell(5, holds, -1, 0)), own(0))
	base := comes(2, 1, 3, 2, msg(tell, 1, 4, 3, 2))
	const most = greatestNum
	for _, row := range []struct {
		what   string
		comes  bool
		change func(g *api.Gram)
	}{
		{"as it is", true, func(g *api.Gram) {}},
		{"from another neighbour", true, func(g *api.Gram) { g.From = 0 }},
		{"from itself", false, func(g *api.Gram) { g.From = 1 }},
		{"from a node farther away", false, func(g *api.Gram) { g.From = 4 }},
		{"from no node of the tree", false, func(g *api.Gram) { g.From = 5 }},
		{"from no node at all", false, func(g *api.Gram) { g.From = 32 }},
		{"from below", false, func(g *api.Gram) { g.From = -1 }},
		{"for another node", false, func(g *api.Gram) { g.To = 0 }},
		{"for who it is from", false, func(g *api.Gram) { g.To = 2 }},
		{"for no node", false, func(g *api.Gram) { g.To = 5 }},
		{"for below", false, func(g *api.Gram) { g.To = -1 }},
		{"word 0", true, func(g *api.Gram) { g.Ack = 0 }},
		{"word below", false, func(g *api.Gram) { g.Ack = -1 }},
		{"the greatest word", true, func(g *api.Gram) { g.Ack = most }},
		{"word beyond", false, func(g *api.Gram) { g.Ack = most + 1 }},
		{"a number below", false, func(g *api.Gram) { g.Seq = -1 }},
		{"the greatest number", true, func(g *api.Gram) { g.Seq = most }},
		{"a number beyond", false, func(g *api.Gram) { g.Seq = most + 1 }},
		{"a number that isn't the next one, and a message that can't be meant", false, func(g *api.Gram) { g.Seq, g.Msg.Obj = 9, 2 }},
		{"no message, but one is carried", false, func(g *api.Gram) { g.Seq = 0 }},
		{"no message", true, func(g *api.Gram) { g.Seq, g.Msg = 0, api.Msg{} }},
		{"a number, but no message", false, func(g *api.Gram) { g.Msg = api.Msg{} }},
		{"the kind 0", false, func(g *api.Gram) { g.Msg.Kind = 0 }},
		{"the kind 5", false, func(g *api.Gram) { g.Msg.Kind = 5 }},
		{"no Tell, but a Where", false, func(g *api.Gram) { g.Msg.Kind = 3 }},
		{"no Tell, and no Where", true, func(g *api.Gram) { g.Msg.Kind, g.Msg.Where = 3, 0 }},
		{"the object 0", true, func(g *api.Gram) { g.Msg.Obj = 0 }},
		{"an object below", false, func(g *api.Gram) { g.Msg.Obj = -1 }},
		{"an object that the state hasn't", false, func(g *api.Gram) { g.Msg.Obj = 2 }},
		{"a request of the first node", true, func(g *api.Gram) { g.Msg.Node = 0 }},
		{"a request of no node of the tree", false, func(g *api.Gram) { g.Msg.Node = 5 }},
		{"a request of below", false, func(g *api.Gram) { g.Msg.Node = -1 }},
		{"the number 1", true, func(g *api.Gram) { g.Msg.Num = 1 }},
		{"the number 0", false, func(g *api.Gram) { g.Msg.Num = 0 }},
		{"the greatest number of a request", true, func(g *api.Gram) { g.Msg.Num = most }},
		{"a number of a request beyond", false, func(g *api.Gram) { g.Msg.Num = most + 1 }},
		{"it is at the last node", true, func(g *api.Gram) { g.Msg.Where = 4 }},
		{"it is at no node of the tree", false, func(g *api.Gram) { g.Msg.Where = 5 }},
		{"it is below", false, func(g *api.Gram) { g.Msg.Where = -1 }},
	} {
		ev := base
		row.change(&ev.Gram)
		if row.comes {
			applied(t, w.x, w.m, s, ev)
		} else {
			checkRefused(t, row.what, w.x, s, ev, 25)
		}
	}
}

// P15.1: datagrams with any numbers turned, of any states.
func TestTurnedDatagrams(t *testing.T) {
	come := 0
	wide(t, 52, 10, func(r *rand.Rand, x *tree.Tree, m model, s api.State) {
		for range 10 {
			ev := someEvent(r, m, s)
			if ev.Kind != datagram {
				continue
			}
			g := &ev.Gram
			places := []*int{&g.From, &g.To, &g.Ack, &g.Seq, &g.Msg.Kind, &g.Msg.Obj, &g.Msg.Node, &g.Msg.Num, &g.Msg.Where}
			at := places[r.Intn(len(places))]
			for _, *at = range around(*at, m.size(), len(s.Objs)) {
				if _, _, e := checkApply(t, x, m, s, ev); e == api.OK {
					come++
				}
			}
		}
	})
	if come < 1000 {
		t.Errorf("just %d came", come)
	}
}

// P15.1: a state with any one number turned is refused just where it can't be.
func TestTurnedStates(t *testing.T) {
	refused := 0
	wide(t, 53, 8, func(r *rand.Rand, x *tree.Tree, m model, s api.State) {
		s = apart(s)
		places := numbers(&s)
		for range 8 {
			at := places[r.Intn(len(places))]
			was := *at
			for _, *at = range around(was, m.size(), len(s.Objs)) {
				if _, _, e := checkApply(t, x, m, s, someEventOf(r, m, s)); e == 24 {
					refused++
				}
			}
			*at = was
		}
	})
	if refused < 1000 {
		t.Errorf("just %d were refused", refused)
	}
}

// someEventOf draws an event for a state that may be none.
func someEventOf(r *rand.Rand, m model, s api.State) api.Event {
	if m.good(s) {
		return someEvent(r, m, s)
	}
	return call(r.Intn(6), r.Intn(3))
}

// P15.1: a state can be over one tree, and is refused over another one.
func TestAnotherTree(t *testing.T) {
	x, m := made(t, -1, 0, 0, 1)
	y, n := made(t, -1, 0, 1, 2)
	for me := range 4 {
		s := begun(t, x, []int{2}, me)
		applied(t, x, m, s, call(acquire, 0))
		if me < 3 {
			checkRefused(t, "over another tree", y, s, call(acquire, 0), 24)
		}
		checkApply(t, y, n, s, call(acquire, 0))
	}
}

// P15.1: open acquires are counted over all objects, those that wait and the one that is held; what rests isn't.
func TestOpenOfAllObjects(t *testing.T) {
	x, m := made(t, -1, 0)
	for open := range 9 {
		s := begun(t, x, []int{0, 1, 0}, 0)
		for i := range open {
			s = applied(t, x, m, s, call(acquire, i%2))
		}
		for obj := range 3 {
			_, num, e := checkApply(t, x, m, s, call(acquire, obj))
			if open < 8 != (e == api.OK) || open < 8 != (num > 0) || open == 8 && e != 21 {
				t.Errorf("%d open, one more of %d: %d, %d", open, obj, num, e)
			}
		}
	}
	s := begun(t, x, []int{0, 1, 0}, 0)
	for range 8 {
		s = applied(t, x, m, s, call(acquire, 0))
	}
	s = applied(t, x, m, s, call(release, 0))
	applied(t, x, m, s, call(acquire, 2))
}

// P15.1: open locates are at most four, of all objects together.
func TestOpenLocates(t *testing.T) {
	x, m := made(t, -1, 0)
	s := begun(t, x, []int{1, 1, 0}, 0)
	for i := range 4 {
		s = applied(t, x, m, s, call(locate, i%2))
	}
	for obj := range 3 {
		checkRefused(t, "a fifth locate", x, s, call(locate, obj), 21)
	}
	s = applied(t, x, m, s, comes(1, 0, 4, 1, msg(tell, 1, 0, 2, 1)))
	applied(t, x, m, s, call(locate, 1))
	applied(t, x, m, s, call(locate, 2))
}

// P15.1: the last number of a request, and of a locate.
func TestLastNumbers(t *testing.T) {
	for _, arrow := range []int{0, 1} {
		cells := []api.Cell{cell(3, rests, -1, 0)}
		w, s := node(t, own(arrow, cells[:arrow]...))
		s.Objs[0].Made, s.Asked = greatestNum-1, greatestNum-1
		for _, kind := range []int{acquire, locate} {
			is, num, e := checkApply(t, w.x, w.m, s, call(kind, 0))
			if num != greatestNum || e != api.OK {
				t.Errorf("the last number: %d, %d", num, e)
			}
			checkRefused(t, "no number left", w.x, is, call(kind, 0), 23)
		}
	}
}

// full answers a state of node's whose edge to the peer has no room, since its messages are too many or their numbers end.
func full(s api.State, peer int, many bool) api.State {
	s = apart(s)
	for i := range s.Edges {
		e := &s.Edges[i]
		switch {
		case e.Peer == peer && many:
			e.Out = slices.Repeat([]api.Msg{msg(pass, 0, 4, 9, 0)}, mostOut)
		case e.Peer == peer:
			e.Base, e.Out = greatestNum-1, []api.Msg{msg(pass, 0, 4, 9, 0)}
		}
	}
	return s
}

// P15.1: whatever is to push a message on an edge without room is refused as a whole, on whichever edge it comes; other edges and
// events don't mind.
func TestNoRoom(t *testing.T) {
	held := cell(5, holds, 4, 2)
	for _, row := range []struct {
		what string
		o    api.Own
		ev   func(from, seq int) api.Event
		to   int
	}{
		{"acquire", own(2), func(_, _ int) api.Event { return call(acquire, 0) }, 2},
		{"acquire here", own(1, cell(5, rests, -1, 0)), func(_, _ int) api.Event { return call(acquire, 0) }, -1},
		{"release", own(0, held), func(_, _ int) api.Event { return call(release, 0) }, 2},
		{"release here", own(1, cell(5, holds, -1, 0)), func(_, _ int) api.Event { return call(release, 0) }, -1},
		{"locate", own(3), func(_, _ int) api.Event { return call(locate, 0) }, 3},
		{"locate here", own(1, held, cell(6, waits, -1, 0)), func(_, _ int) api.Event { return call(locate, 0) }, -1},
		{"a Find goes on", own(3), func(from, seq int) api.Event { return comes(from, 1, 0, seq, msg(find, 0, 4, 2, 0)) }, 3},
		{"a Find stops", own(1, cell(5, waits, -1, 0)), func(from, seq int) api.Event { return comes(from, 1, 0, seq, msg(find, 0, 4, 2, 0)) }, -1},
		{"a Find, and the object goes", own(1, cell(5, rests, -1, 0)), func(from, seq int) api.Event { return comes(from, 1, 0, seq, msg(find, 0, 4, 2, 0)) }, 2},
		{"a Seek goes on", own(0), func(from, seq int) api.Event { return comes(from, 1, 0, seq, msg(seek, 0, 4, 2, 0)) }, 0},
		{"a Seek is answered", own(1, cell(5, rests, -1, 0)), func(from, seq int) api.Event { return comes(from, 1, 0, seq, msg(seek, 0, 3, 2, 0)) }, 3},
		{"a Pass goes on", own(0), func(from, seq int) api.Event { return comes(from, 1, 0, seq, msg(pass, 0, 4, 2, 0)) }, 2},
		{"a Pass comes", own(0), func(from, seq int) api.Event { return comes(from, 1, 0, seq, msg(pass, 0, 1, 2, 0)) }, -1},
		{"a Tell goes on", own(0), func(from, seq int) api.Event { return comes(from, 1, 0, seq, msg(tell, 0, 0, 2, 3)) }, 0},
		{"nothing new", own(0), func(from, _ int) api.Event { return comes(from, 1, 0, 1000, msg(tell, 0, 0, 2, 3)) }, -1},
		{"no message", own(0), func(from, _ int) api.Event { return comes(from, 1, 0, 0, api.Msg{}) }, -1},
	} {
		w, free := node(t, row.o)
		for _, peer := range []int{0, 2, 3} {
			for _, many := range []bool{false, true} {
				s := full(free, peer, many)
				for _, e := range s.Edges {
					ev := row.ev(e.Peer, e.Seen+1)
					if peer == row.to {
						checkRefused(t, row.what, w.x, s, ev, 23)
					}
					checkApply(t, w.x, w.m, s, ev)
				}
			}
		}
	}
}

// P15.1: the word that a datagram brings makes room for what its message pushes on that edge; without it all is refused, the word too.
func TestWordMakesRoom(t *testing.T) {
	w, free := node(t, own(2))
	s := full(free, 2, true)
	back := msg(pass, 0, 4, 2, 0)
	checkRefused(t, "no word", w.x, s, comes(2, 1, 0, 2, back), 23)
	checkRefused(t, "word of what wasn't sent", w.x, s, comes(2, 1, mostOut+1, 2, back), 23)
	checkRefused(t, "from elsewhere", w.x, s, comes(0, 1, 1, 7, back), 23)
	got := applied(t, w.x, w.m, s, comes(2, 1, 1, 2, back))
	if e := got.Edges[1]; e.Base != 1 || e.Seen != 2 || len(e.Out) != mostOut || e.Out[mostOut-1] != back {
		t.Errorf("Base %d, Seen %d, %d messages", e.Base, e.Seen, len(e.Out))
	}
	got = applied(t, w.x, w.m, s, comes(2, 1, mostOut, 2, back))
	if e := got.Edges[1]; e.Base != mostOut || !slices.Equal(e.Out, []api.Msg{back}) {
		t.Errorf("Base %d, %v", e.Base, e.Out)
	}
	ends := full(free, 2, false)
	checkRefused(t, "word doesn't make numbers", w.x, ends, comes(2, 1, greatestNum, 2, back), 23)
}

// P15.1: the peer's messages end at the last number: behind it none fits, but the word counts.
func TestLastMessageOfThePeer(t *testing.T) {
	w, s := node(t, own(0))
	m := msg(find, 0, 4, 2, 0)
	s.Edges[1] = api.Edge{Peer: 2, Base: 3, Out: []api.Msg{m, m}, Seen: greatestNum - 1}
	got := applied(t, w.x, w.m, s, comes(2, 1, 4, greatestNum, m))
	if e := got.Edges[1]; e.Seen != greatestNum || e.Base != 4 || got.Objs[0].Arrow != 2 {
		t.Errorf("the last message: %+v", got)
	}
	for _, seq := range []int{0, 1, greatestNum - 1, greatestNum} {
		g := m
		if seq == 0 {
			g = api.Msg{}
		}
		again := applied(t, w.x, w.m, got, comes(2, 1, 5, seq, g))
		if e := again.Edges[1]; e.Seen != greatestNum || e.Base != 5 || len(e.Out) != 0 || !sameOwn(again.Objs[0], got.Objs[0]) {
			t.Errorf("behind the last message: %+v", again)
		}
	}
}
