package state_test

import (
	"math/rand"
	"slices"
	"testing"

	"fletch/api"
	"fletch/state"
	"fletch/tree"
)

// What the spare room of a list holds.
var (
	markedCell  = api.Cell{Num: 0xee, State: 0xee, Node: 0xee, Next: 0xee}
	markedMsg   = api.Msg{Kind: 0xee, Obj: 0xee, Node: 0xee, Num: 0xee, Where: 0xee}
	markedOwn   = api.Own{Arrow: 0xee, Made: 0xee, Cells: []api.Cell{markedCell}}
	markedEdge  = api.Edge{Peer: 0xee, Base: 0xee, Seen: 0xee, Out: []api.Msg{markedMsg}}
	markedAsk   = api.Ask{Obj: 0xee, Num: 0xee}
	markedFound = api.Found{Obj: 0xee, Num: 0xee, Where: 0xee}
)

// spare answers the list with spare room behind it that holds marks.
func spare[T any](xs []T, mark T) []T {
	room := slices.Repeat([]T{mark}, len(xs)+5)
	return room[:copy(room, xs)]
}

// roomy answers the state in memory of its own, with spare room behind each of its lists.
func roomy(s api.State) api.State {
	s.Objs = spare(s.Objs, markedOwn)
	for i := range s.Objs {
		s.Objs[i].Cells = spare(s.Objs[i].Cells, markedCell)
	}
	s.Edges = spare(s.Edges, markedEdge)
	for i := range s.Edges {
		s.Edges[i].Out = spare(s.Edges[i].Out, markedMsg)
	}
	s.Asks = spare(s.Asks, markedAsk)
	s.Got = spare(s.Got, markedFound)
	return s
}

// list is one of a state's lists with its spare room: what stands in it, and a way to write into all of it. Where its entries have
// lists of their own, these are lists by themselves: they aren't told here, and aren't lost by the writing.
type list struct {
	words    func() []int
	scribble func()
}

func listOf[T any](xs []T, words func(x T) []int, write func(x *T)) list {
	xs = xs[:cap(xs)]
	return list{
		func() []int {
			var out []int
			for _, x := range xs {
				out = append(out, words(x)...)
			}
			return out
		},
		func() {
			for i := range xs {
				write(&xs[i])
			}
		},
	}
}

// lists answers all of a state's.
func lists(s api.State) []list {
	out := []list{
		listOf(s.Objs, func(o api.Own) []int { return []int{o.Arrow, o.Made} }, func(o *api.Own) { o.Arrow, o.Made = o.Arrow+1, o.Made+1 }),
		listOf(s.Edges, func(e api.Edge) []int { return []int{e.Peer, e.Base, e.Seen} }, func(e *api.Edge) { e.Peer, e.Base, e.Seen = e.Peer+1, e.Base+1, e.Seen+1 }),
		listOf(s.Asks, askWords, func(a *api.Ask) { a.Obj, a.Num = a.Obj+1, a.Num+1 }),
		listOf(s.Got, foundWords, func(f *api.Found) { f.Obj, f.Num, f.Where = f.Obj+1, f.Num+1, f.Where+1 }),
	}
	for _, o := range s.Objs {
		out = append(out, listOf(o.Cells, cellWords, func(c *api.Cell) { c.Num, c.State, c.Node, c.Next = c.Num+1, c.State+1, c.Node+1, c.Next+1 }))
	}
	for _, e := range s.Edges {
		out = append(out, listOf(e.Out, msgWords, func(g *api.Msg) { g.Kind, g.Num, g.Where = g.Kind+1, g.Num+1, g.Where+1 }))
	}
	return out
}

// scribble writes into all of a state's lists, and into their spare room.
func scribble(s api.State) {
	for _, l := range lists(s) {
		l.scribble()
	}
}

// told answers all that stands in a state's memory, spare room too.
func told(s api.State) [][]int {
	out := [][]int{words(s)}
	for _, l := range lists(s) {
		out = append(out, l.words())
	}
	return out
}

func checkUntouched(t *testing.T, what string, s api.State, want [][]int) {
	t.Helper()
	if !slices.EqualFunc(told(s), want, slices.Equal) {
		t.Fatalf("%s: what was handed in, or answered before, was written to: %+v", what, s)
	}
}

// checkApart: no two lists of a state share memory.
func checkApart(t *testing.T, what string, s api.State) {
	t.Helper()
	all := lists(s)
	for i, written := range all {
		var before [][]int
		for _, l := range all {
			before = append(before, l.words())
		}
		written.scribble()
		for j, l := range all {
			if i != j && !slices.Equal(l.words(), before[j]) {
				t.Fatalf("%s: the lists %d and %d share memory: %+v", what, i, j, s)
			}
		}
	}
}

// P14.4: Copy answers new memory in every list: neither is the argument changed, nor what is written into it seen, nor the other way round.
func TestCopyIsNewMemory(t *testing.T) {
	wide(t, 71, func(s api.State) {
		in := roomy(s)
		before := told(in)
		first, second := state.Copy(in), state.Copy(in)
		checkUntouched(t, "Copy", in, before)
		want := told(second)
		scribble(first)
		checkUntouched(t, "Copy, its answer written into", in, before)
		checkUntouched(t, "Copy, another answer written into", second, want)
		third := state.Copy(second)
		scribble(in)
		checkUntouched(t, "Copy, the argument written into", second, want)
		checkState(t, "Copy", second, s)
		checkState(t, "Copy of a copy", third, s)
		scribble(third)
		checkUntouched(t, "Copy of a copy, that written into", second, want)
		checkApart(t, "Copy", second)
	})
}

// P14.4: a copy's entries are its own, where the argument's are put in other places.
func TestCopyKeepsItsEntries(t *testing.T) {
	wide(t, 72, func(s api.State) {
		in := roomy(s)
		got := state.Copy(in)
		slices.Reverse(in.Objs)
		slices.Reverse(in.Edges)
		for i := range in.Objs {
			in.Objs[i] = markedOwn
		}
		for i := range in.Edges {
			in.Edges[i] = markedEdge
		}
		checkState(t, "Copy", got, s)
	})
}

// P14.4: a copy of lists that share memory shares none.
func TestCopyOfSharedLists(t *testing.T) {
	cells, out := []api.Cell{cell(1, waits, 2, 3), cell(2, waits, -1, 0)}, []api.Msg{{Kind: 1, Num: 1}, {Kind: 2, Num: 2}}
	s := api.State{
		Objs:  []api.Own{{Cells: cells}, {Cells: cells}, {Cells: cells[:1]}, {Cells: cells[1:]}},
		Edges: []api.Edge{{Out: out}, {Out: out}, {Out: out[:1]}, {Out: out[1:]}},
	}
	got := state.Copy(s)
	checkState(t, "Copy", got, s)
	checkApart(t, "Copy", got)
	if cells[1] != cell(2, waits, -1, 0) || out[1] != (api.Msg{Kind: 2, Num: 2}) {
		t.Errorf("%v, %v", cells, out)
	}
}

// P14.4: no call that asks about a state changes it, spare room included.
func TestStatesStay(t *testing.T) {
	x, _ := made(t, -1, 0, 0)
	wide(t, 73, func(s api.State) {
		a, b := roomy(s), roomy(s)
		before := told(a)
		state.Good(x, a)
		state.Open(a)
		state.Same(a, b)
		state.Same(b, a)
		checkUntouched(t, "Good, Open, Same", a, before)
		checkUntouched(t, "Good, Open, Same", b, before)
	})
	someTrees(t, 74, func(r *rand.Rand, x *tree.Tree, m model) {
		a := roomy(someGood(r, m, r.Intn(m.size())))
		before := told(a)
		if !state.Good(x, a) {
			t.Fatalf("%+v", a)
		}
		checkUntouched(t, "Good", a, before)
	})
}

// P14.4: First neither changes nor keeps the homes, and answers new memory in every list; an answer's lists are apart.
func TestFirstIsNewMemory(t *testing.T) {
	someTrees(t, 75, func(r *rand.Rand, x *tree.Tree, m model) {
		me := r.Intn(m.size())
		homes := []int{me, r.Intn(m.size()), me, me, r.Intn(m.size())}
		in := spare(homes, 0xee)
		first, second := begun(t, x, in, me), begun(t, x, in, me)
		want := told(second)
		state.Homes(x, in)
		if !slices.Equal(in, homes) || slices.ContainsFunc(in[len(in):cap(in)], func(x int) bool { return x != 0xee }) {
			t.Fatalf("the homes are %v now, not %v", in[:cap(in)], homes)
		}
		scribble(first)
		for i := range in[:cap(in)] {
			in[:cap(in)][i] = -1
		}
		checkUntouched(t, "First", second, want)
		checkState(t, "First behind it", begun(t, x, homes, me), second)
		checkApart(t, "First", second)
		checkState(t, "First of the same tree", begun(t, x, homes, me), begun(t, x, slices.Clone(homes), me))
	})
}

// P14.4: the spare room isn't read either.
func TestSpareRoomIsNotRead(t *testing.T) {
	someTrees(t, 76, func(r *rand.Rand, x *tree.Tree, m model) {
		s := someGood(r, m, r.Intn(m.size()))
		in := roomy(s)
		if len(checkGood(t, x, m, in)) > 0 || !state.Same(s, in) || state.Open(in) != modelOpen(s) {
			t.Fatalf("%+v", in)
		}
		homes := spare([]int{0}, -1)
		checkState(t, "First", begun(t, x, homes, 0), begun(t, x, []int{0}, 0))
	})
}

// P14.4, P1: an answer hangs on the arguments alone, also where calls run at one time, of one state too.
func TestCallsAtOneTime(t *testing.T) {
	x, m := made(t, -1, 0, 0, 1, 1, 2)
	shared := roomy(someGood(rand.New(rand.NewSource(77)), m, 1))
	before := told(shared)
	homes := []int{3, 1, 1}
	done := make(chan bool)
	for i := range 8 {
		go func() {
			r := rand.New(rand.NewSource(int64(i)))
			fine := true
			for range 200 {
				fine = fine && answersAsTheModel(x, m, shared, homes, r) && answersAsTheModel(x, m, someGood(r, m, r.Intn(6)), homes, r)
			}
			done <- fine
		}()
	}
	for range 8 {
		if !<-done {
			t.Error("calls at one time answer otherwise")
		}
	}
	checkUntouched(t, "calls at one time", shared, before)
}

// answersAsTheModel: whether all calls of a state do.
func answersAsTheModel(x *tree.Tree, m model, s api.State, homes []int, r *rand.Rand) bool {
	me := r.Intn(8) - 1
	first, e := state.First(x, homes, me)
	want, wantE := m.first(homes, me)
	fine := e == wantE && slices.Equal(words(first), words(want)) && state.Homes(x, homes) == m.homes(homes)
	g := api.Msg{Obj: r.Intn(4) - 1, Node: r.Intn(8) - 1, Where: r.Intn(8) - 1}
	fine = fine && state.Meant(x, 2, g) == m.meant(2, g) && state.Open(s) == modelOpen(s)
	c := state.Copy(s)
	fine = fine && slices.Equal(words(c), words(s)) && state.Same(s, c) && state.Good(x, s)
	places := numbers(&c)
	*places[r.Intn(len(places))]++
	return fine && !state.Same(s, c) && state.Good(x, c) == m.good(c)
}
