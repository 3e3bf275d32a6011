package core_test

import (
	"slices"
	"testing"

	"fletch/api"
	"fletch/core"
)

func (w *run) checkCells(v int, want ...api.Cell) {
	w.t.Helper()
	if got := w.nodes[v].Objs[0].Cells; !slices.Equal(got, want) {
		w.t.Fatalf("the cells of %d: %v, not %v", v, got, want)
	}
}

func (w *run) checkArrows(want ...int) {
	w.t.Helper()
	var got []int
	for _, s := range w.nodes {
		got = append(got, s.Objs[0].Arrow)
	}
	if !slices.Equal(got, want) {
		w.t.Fatalf("the arrows: %v, not %v", got, want)
	}
}

func (w *run) checkLeft(u, v int, want ...api.Msg) {
	w.t.Helper()
	if got := w.left(u, v); !slices.Equal(got, want) {
		w.t.Fatalf("left from %d for %d: %v, not %v", u, v, got, want)
	}
}

func (w *run) checkNumber(got, want int) {
	w.t.Helper()
	if got != want {
		w.t.Fatalf("the number %d, not %d", got, want)
	}
}

// P15.1: the chapter's examples, word by word.
func TestChaptersExamples(t *testing.T) {
	w := started(t, []int{1}, -1, 0)
	w.checkNumber(w.call(1, acquire, 0), 1)
	w.checkCells(1, cell(1, holds, -1, 0))
	w.checkNumber(w.call(0, acquire, 0), 1)
	w.checkCells(0, cell(1, waits, -1, 0))
	w.checkArrows(0, 1)
	w.checkLeft(0, 1, msg(find, 0, 0, 1, 0))

	w.carry(0, 1)
	w.checkCells(1, cell(1, holds, 0, 1))
	w.checkArrows(0, 0)
	w.checkNumber(w.call(1, release, 0), 0)
	w.checkCells(1)
	w.checkLeft(1, 0, msg(pass, 0, 0, 1, 0))
	w.carry(1, 0)
	w.checkCells(0, cell(1, holds, -1, 0))

	w.call(0, release, 0)
	w.checkCells(0, cell(1, rests, -1, 0))
	if _, e := w.step(0, call(release, 0)); e != api.ErrHeld {
		t.Errorf("a second release: %d", e)
	}
	w.checkNumber(w.call(1, locate, 0), 1)
	w.checkLeft(1, 0, msg(seek, 0, 1, 1, 0))
	w.carry(1, 0)
	w.checkLeft(0, 1, msg(tell, 0, 1, 1, 0))
	w.carry(0, 1)
	if s := w.nodes[1]; !slices.Equal(s.Got, []api.Found{{Obj: 0, Num: 1, Where: 0}}) || len(s.Asks) != 0 {
		t.Errorf("the locate: %+v", s)
	}
}

// P15.1: the document's examples of the whole, 1 to 8, as far as they tell of the nodes' states.
func TestExamplesOfTheWhole(t *testing.T) {
	w := started(t, []int{2}, -1, 0, 0, 1)
	w.checkArrows(2, 0, 2, 1)
	w.checkCells(2, cell(0, rests, -1, 0))
	w.checkNumber(w.call(2, acquire, 0), 1)
	w.checkCells(2, cell(1, holds, -1, 0))
	w.checkLeft(2, 0)

	w.checkNumber(w.call(3, acquire, 0), 1)
	w.checkLeft(3, 1, msg(find, 0, 3, 1, 0))
	w.checkArrows(2, 0, 2, 3)
	w.carry(3, 1)
	w.checkArrows(2, 3, 2, 3)
	w.checkLeft(1, 0, msg(find, 0, 3, 1, 0))

	w.call(2, release, 0)
	w.checkCells(2, cell(1, rests, -1, 0))
	w.carry(1, 0)
	w.carry(0, 2)
	w.checkCells(2)
	w.checkArrows(1, 3, 0, 3)
	w.checkLeft(2, 0, msg(pass, 0, 3, 1, 0))
	w.carry(2, 0)
	w.carry(0, 1)
	w.carry(1, 3)
	w.checkCells(3, cell(1, holds, -1, 0))

	w.checkNumber(w.call(3, acquire, 0), 2)
	w.checkCells(3, cell(1, holds, 3, 2), cell(2, waits, -1, 0))
	w.call(3, release, 0)
	w.checkCells(3, cell(2, holds, -1, 0))
	w.checkLeft(3, 1)

	w.checkNumber(w.call(2, locate, 0), 1)
	for _, hop := range [][2]int{{2, 0}, {0, 1}, {1, 3}} {
		w.checkLeft(hop[0], hop[1], msg(seek, 0, 2, 1, 0))
		w.carry(hop[0], hop[1])
	}
	for _, hop := range [][2]int{{3, 1}, {1, 0}, {0, 2}} {
		w.checkLeft(hop[0], hop[1], msg(tell, 0, 2, 1, 3))
		w.carry(hop[0], hop[1])
	}
	if got := w.nodes[2].Got; !slices.Equal(got, []api.Found{{Obj: 0, Num: 1, Where: 3}}) {
		t.Errorf("Got: %v", got)
	}

	was := w.nodes[2]
	for _, ev := range w.sent(0, 2) {
		w.come(ev)
		w.come(ev)
	}
	if is := w.nodes[2]; !slices.Equal(is.Got, was.Got) || !slices.EqualFunc(is.Objs, was.Objs, sameOwn) {
		t.Errorf("datagrams that came twice: %+v, not %+v", is, was)
	}
}

// P15.1: the document's tenth example: of nine acquires at one node the ninth is too many.
func TestTenthExample(t *testing.T) {
	for v := range 4 {
		w := started(t, []int{2, 2}, -1, 0, 0, 1)
		for num := 1; num <= 8; num++ {
			w.checkNumber(w.call(v, acquire, 0), num)
		}
		for obj := range 2 {
			if _, e := w.step(v, call(acquire, obj)); e != api.ErrMany {
				t.Errorf("the ninth at %d: %d", v, e)
			}
		}
	}
}

// node is a state of the node 1 of the tree of the parents -1, 0, 1, 1, 2, whose neighbours are 0, 2 and 3; 4 is beyond 2.
func node(t *testing.T, objs ...api.Own) (*run, api.State) {
	t.Helper()
	w := started(t, []int{0}, -1, 0, 1, 1, 2)
	s := api.State{Me: 1, Objs: objs, Edges: []api.Edge{{Peer: 0, Base: 4, Seen: 6}, {Peer: 2, Seen: 1}, {Peer: 3, Base: 8}}, Asked: 7}
	return w, s
}

// own is what a node knows of an object of which it has made ten requests.
func own(arrow int, cells ...api.Cell) api.Own {
	return api.Own{Arrow: arrow, Made: 10, Cells: cells}
}

// behind is what an event is to make of one object of a state: what the node knows of it, and the message that is pushed to a node.
type behind struct {
	what string
	was  api.Own
	ev   api.Event
	is   api.Own
	to   int
	m    api.Msg
}

// checkBehind holds answers against what is written out, beside another object which nothing touches.
func checkBehind(t *testing.T, rows []behind) {
	t.Helper()
	for _, row := range rows {
		other := own(3, cell(9, waits, 2, 5))
		w, s := node(t, row.was, other)
		want := apart(s)
		want.Objs[0] = row.is
		g := row.ev.Gram
		for i := range want.Edges {
			e := &want.Edges[i]
			if e.Peer == g.From && row.ev.Kind == datagram {
				e.Seen++
			}
			if e.Peer == row.to && row.m.Kind > 0 {
				e.Out = append(e.Out, row.m)
			}
		}
		wantNum := 0
		if row.ev.Kind == acquire {
			wantNum = row.is.Made
		}
		got, num, e := core.Apply(w.x, s, row.ev)
		if e != api.OK || num != wantNum || !same(got, want) {
			t.Errorf("%s: %+v, %d, %d, not %+v", row.what, got, num, e, want)
		}
		checkApply(t, w.x, w.m, s, row.ev)
	}
}

// made11 is what the node knows behind its eleventh acquire.
func made11(arrow int, cells ...api.Cell) api.Own {
	o := own(arrow, cells...)
	o.Made = 11
	return o
}

// P15.1: an acquire, wherever the arrow points and whatever the last request does.
func TestAcquire(t *testing.T) {
	ev := call(acquire, 0)
	m := msg(find, 0, 1, 11, 0)
	checkBehind(t, []behind{
		{"rests here", own(1, cell(10, rests, -1, 0)), ev, made11(1, cell(11, holds, -1, 0)), 0, api.Msg{}},
		{"rests here from the beginning", own(1, cell(0, rests, -1, 0)), ev, made11(1, cell(11, holds, -1, 0)), 0, api.Msg{}},
		{"held here", own(1, cell(5, holds, -1, 0)), ev, made11(1, cell(5, holds, 1, 11), cell(11, waits, -1, 0)), 0, api.Msg{}},
		{"one waits here", own(1, cell(5, waits, -1, 0)), ev, made11(1, cell(5, waits, 1, 11), cell(11, waits, -1, 0)), 0, api.Msg{}},
		{"two wait here", own(1, cell(5, holds, 4, 3), cell(7, waits, -1, 0)), ev, made11(1, cell(5, holds, 4, 3), cell(7, waits, 1, 11), cell(11, waits, -1, 0)), 0, api.Msg{}},
		{"the arrow up", own(0), ev, made11(1, cell(11, waits, -1, 0)), 0, m},
		{"the arrow down", own(3), ev, made11(1, cell(11, waits, -1, 0)), 3, m},
		{"the arrow away, one waits", own(2, cell(5, waits, 4, 3)), ev, made11(1, cell(5, waits, 4, 3), cell(11, waits, -1, 0)), 2, m},
		{"the arrow away, one holds", own(2, cell(5, holds, 4, 3)), ev, made11(1, cell(5, holds, 4, 3), cell(11, waits, -1, 0)), 2, m},
	})
}

// P15.1: a release: the object stays, goes on here, or leaves by the next node on the way.
func TestRelease(t *testing.T) {
	ev := call(release, 0)
	checkBehind(t, []behind{
		{"nobody follows", own(1, cell(5, holds, -1, 0)), ev, own(1, cell(5, rests, -1, 0)), 0, api.Msg{}},
		{"one of this node follows", own(1, cell(5, holds, 1, 8), cell(8, waits, -1, 0)), ev, own(1, cell(8, holds, -1, 0)), 0, api.Msg{}},
		{"and the arrow is away", own(0, cell(5, holds, 1, 8), cell(8, waits, 0, 1)), ev, own(0, cell(8, holds, 0, 1)), 0, api.Msg{}},
		{"a neighbour follows", own(0, cell(5, holds, 3, 8)), ev, own(0), 3, msg(pass, 0, 3, 8, 0)},
		{"one farther away", own(0, cell(5, holds, 4, 8)), ev, own(0), 2, msg(pass, 0, 4, 8, 0)},
		{"and one here waits of the same number", own(1, cell(5, holds, 4, 8), cell(8, waits, -1, 0)), ev, own(1, cell(8, waits, -1, 0)), 2, msg(pass, 0, 4, 8, 0)},
	})
}

// P15.1: a Find turns the arrow to where it comes from; it goes on, or is the successor, or sends the object off.
func TestFind(t *testing.T) {
	m := msg(find, 0, 4, 6, 0)
	ev := comes(2, 1, 0, 2, m)
	checkBehind(t, []behind{
		{"goes on up", own(0), ev, own(2), 0, m},
		{"goes on down", own(3, cell(5, waits, 3, 3)), ev, own(2, cell(5, waits, 3, 3)), 3, m},
		{"back to where it comes from", own(2), ev, own(2), 2, m},
		{"the last one holds", own(1, cell(5, holds, -1, 0)), ev, own(2, cell(5, holds, 4, 6)), 0, api.Msg{}},
		{"the last one waits", own(1, cell(3, holds, 1, 5), cell(5, waits, -1, 0)), ev, own(2, cell(3, holds, 1, 5), cell(5, waits, 4, 6)), 0, api.Msg{}},
		{"the last one rests", own(1, cell(5, rests, -1, 0)), ev, own(2), 2, msg(pass, 0, 4, 6, 0)},
		{"it rests, and the Find comes from elsewhere", own(1, cell(5, rests, -1, 0)), comes(3, 1, 0, 1, m), own(3), 2, msg(pass, 0, 4, 6, 0)},
		{"it was this node's", own(0), comes(2, 1, 0, 2, msg(find, 0, 1, 6, 0)), own(0), 0, api.Msg{}},
		{"it was this node's, a sink", own(1, cell(5, rests, -1, 0)), comes(2, 1, 0, 2, msg(find, 0, 1, 6, 0)), own(1, cell(5, rests, -1, 0)), 0, api.Msg{}},
	})
}

// P15.1: a Pass goes on towards its Node; there it comes to the first request, if that has its number and waits.
func TestPass(t *testing.T) {
	m := msg(pass, 0, 1, 5, 0)
	ev := comes(2, 1, 0, 2, m)
	stays := func(what string, o api.Own) behind { return behind{what, o, ev, o, 0, api.Msg{}} }
	checkBehind(t, []behind{
		{"the first waits", own(1, cell(5, waits, -1, 0)), ev, own(1, cell(5, holds, -1, 0)), 0, api.Msg{}},
		{"two wait", own(0, cell(5, waits, 1, 6), cell(6, waits, 2, 9)), ev, own(0, cell(5, holds, 1, 6), cell(6, waits, 2, 9)), 0, api.Msg{}},
		stays("the second has the number", own(1, cell(4, waits, 1, 5), cell(5, waits, -1, 0))),
		stays("the second has it, the first holds", own(1, cell(4, holds, 1, 5), cell(5, waits, -1, 0))),
		stays("the first holds already", own(1, cell(5, holds, -1, 0))),
		stays("the first rests", own(1, cell(5, rests, -1, 0))),
		stays("the first has another number", own(1, cell(6, waits, -1, 0))),
		stays("no requests", own(2)),
		{"to a neighbour", own(0), comes(2, 1, 0, 2, msg(pass, 0, 3, 5, 0)), own(0), 3, msg(pass, 0, 3, 5, 0)},
		{"farther", own(0), comes(3, 1, 0, 1, msg(pass, 0, 4, 5, 0)), own(0), 2, msg(pass, 0, 4, 5, 0)},
		{"back", own(0), comes(3, 1, 0, 1, msg(pass, 0, 3, 5, 0)), own(0), 3, msg(pass, 0, 3, 5, 0)},
		{"not along the arrow", own(1, cell(5, waits, -1, 0)), comes(3, 1, 0, 1, msg(pass, 0, 0, 5, 0)), own(1, cell(5, waits, -1, 0)), 0, msg(pass, 0, 0, 5, 0)},
	})
}

// P15.1: a Seek goes along the arrow; at a sink a Tell goes back towards its Node.
func TestSeek(t *testing.T) {
	m := msg(seek, 0, 4, 6, 0)
	ev := comes(2, 1, 0, 2, m)
	here := own(1, cell(5, waits, -1, 0))
	checkBehind(t, []behind{
		{"goes on up", own(0), ev, own(0), 0, m},
		{"goes on down", own(3), ev, own(3), 3, m},
		{"back", own(2), ev, own(2), 2, m},
		{"is here", here, ev, here, 2, msg(tell, 0, 4, 6, 1)},
		{"is here, from elsewhere", here, comes(3, 1, 0, 1, m), here, 2, msg(tell, 0, 4, 6, 1)},
		{"this node's, not here", own(0), comes(2, 1, 0, 2, msg(seek, 0, 1, 6, 0)), own(0), 0, msg(seek, 0, 1, 6, 0)},
		{"this node's, here, but not open", here, comes(2, 1, 0, 2, msg(seek, 0, 1, 6, 0)), here, 0, api.Msg{}},
		{"a Tell goes on", own(0), comes(2, 1, 0, 2, msg(tell, 0, 3, 6, 4)), own(0), 3, msg(tell, 0, 3, 6, 4)},
		{"a Tell goes back", own(0), comes(2, 1, 0, 2, msg(tell, 0, 4, 6, 3)), own(0), 2, msg(tell, 0, 4, 6, 3)},
	})
}

// asked is a node that has asked 7 times; open are 3 of the object 0, 5 of the object 1, 6 of the object 0.
func asked(t *testing.T) (*run, api.State) {
	t.Helper()
	w, s := node(t, own(1, cell(5, rests, -1, 0)), own(2))
	s.Asks = []api.Ask{{Obj: 0, Num: 3}, {Obj: 1, Num: 5}, {Obj: 0, Num: 6}}
	s.Got = []api.Found{{Obj: 1, Num: 1, Where: 4}, {Obj: 1, Num: 4, Where: 2}}
	return w, s
}

// P15.1: a Tell takes out the open locate of its Obj and Num, and no other.
func TestTellComes(t *testing.T) {
	w, s := asked(t)
	for _, row := range []struct {
		obj, num int
		asks     []api.Ask
	}{
		{0, 3, []api.Ask{{Obj: 1, Num: 5}, {Obj: 0, Num: 6}}},
		{1, 5, []api.Ask{{Obj: 0, Num: 3}, {Obj: 0, Num: 6}}},
		{0, 6, []api.Ask{{Obj: 0, Num: 3}, {Obj: 1, Num: 5}}},
		{1, 3, nil},
		{0, 5, nil},
		{1, 6, nil},
		{0, 7, nil},
		{0, 1, nil},
		{1, greatestNum, nil},
	} {
		got := applied(t, w.x, w.m, s, comes(2, 1, 0, 2, msg(tell, row.obj, 1, row.num, 3)))
		want := apart(s)
		want.Edges[1].Seen = 2
		if row.asks != nil {
			want.Asks = row.asks
			want.Got = append(want.Got, api.Found{Obj: row.obj, Num: row.num, Where: 3})
		}
		checkState(t, "a Tell", got, want)
	}
}

// P15.1: of more than four answers the first one is let go.
func TestGotIsBounded(t *testing.T) {
	w, s := asked(t)
	s.Asked, s.Asks = 100, nil
	for num := 1; num <= 10; num++ {
		s.Asks = []api.Ask{{Obj: 1, Num: 50 + num}}
		s = applied(t, w.x, w.m, s, comes(2, 1, 0, 1+num, msg(tell, 1, 1, 50+num, num%5)))
		if len(s.Got) != min(2+num, 4) || s.Got[len(s.Got)-1] != (api.Found{Obj: 1, Num: 50 + num, Where: num % 5}) {
			t.Fatalf("behind %d Tells: %v", num, s.Got)
		}
	}
	want := []api.Found{{Obj: 1, Num: 57, Where: 2}, {Obj: 1, Num: 58, Where: 3}, {Obj: 1, Num: 59, Where: 4}, {Obj: 1, Num: 60, Where: 0}}
	if !slices.Equal(s.Got, want) {
		t.Errorf("%v, not %v", s.Got, want)
	}
}

// P15.1: a locate at a sink is answered at once; elsewhere it is open, and a Seek goes along the arrow.
func TestLocate(t *testing.T) {
	w, s := asked(t)
	got, num, e := checkApply(t, w.x, w.m, s, call(locate, 0))
	want := apart(s)
	want.Asked = 8
	want.Got = append(want.Got, api.Found{Obj: 0, Num: 8, Where: 1})
	if num != 8 || e != api.OK {
		t.Errorf("a locate here: %d, %d", num, e)
	}
	checkState(t, "a locate here", got, want)

	got, num, e = checkApply(t, w.x, w.m, s, call(locate, 1))
	want = apart(s)
	want.Asked = 8
	want.Asks = append(want.Asks, api.Ask{Obj: 1, Num: 8})
	want.Edges[1].Out = []api.Msg{msg(seek, 1, 1, 8, 0)}
	if num != 8 || e != api.OK {
		t.Errorf("a locate away: %d, %d", num, e)
	}
	checkState(t, "a locate away", got, want)
}

// P15.1: a Seek of this node's own that comes to it as a sink is answered here.
func TestSeekOfItself(t *testing.T) {
	w, s := asked(t)
	got := applied(t, w.x, w.m, s, comes(3, 1, 0, 1, msg(seek, 0, 1, 6, 0)))
	want := apart(s)
	want.Edges[2].Seen = 1
	want.Asks = want.Asks[:2]
	want.Got = append(want.Got, api.Found{Obj: 0, Num: 6, Where: 1})
	checkState(t, "a Seek of this node's", got, want)
}

// P15.1: of one object what is asked is seen in no other one's arrow, requests and cells.
func TestOtherObjectsStay(t *testing.T) {
	objs := []api.Own{own(1, cell(5, holds, 1, 8), cell(8, waits, -1, 0)), own(1, cell(5, rests, -1, 0)), own(0), own(2, cell(5, waits, 4, 1))}
	w, s := node(t, objs...)
	for obj := range objs {
		for _, ev := range []api.Event{
			call(acquire, obj), call(release, obj), call(locate, obj),
			comes(2, 1, 0, 2, msg(find, obj, 4, 3, 0)), comes(2, 1, 0, 2, msg(pass, obj, 1, 5, 0)),
		} {
			is, _, e := checkApply(t, w.x, w.m, s, ev)
			for i := range objs {
				if e == api.OK && i != obj && !sameOwn(is.Objs[i], s.Objs[i]) {
					t.Errorf("%+v changes the object %d: %+v", ev, i, is.Objs[i])
				}
			}
		}
	}
}

// P15.1: at a node that has no neighbours the object goes from request to request.
func TestAlone(t *testing.T) {
	w := started(t, []int{0, 0}, -1)
	for obj := range 2 {
		w.checkNumber(w.call(0, acquire, obj), 1)
		w.checkNumber(w.call(0, acquire, obj), 2)
		w.checkNumber(w.call(0, locate, obj), 1+obj)
		w.call(0, release, obj)
		w.call(0, release, obj)
	}
	w.checkCells(0, cell(2, rests, -1, 0))
	w.drained()
	if got := w.nodes[0].Got; !slices.Equal(got, []api.Found{{Obj: 0, Num: 1}, {Obj: 1, Num: 2}}) {
		t.Errorf("Got: %v", got)
	}
}
