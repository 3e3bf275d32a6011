package core_test

import (
	"math/rand"
	"slices"
	"testing"

	"fletch/api"
	"fletch/core"
	"fletch/tree"
)

// What the spare room of a list holds.
var (
	markedCell  = api.Cell{Num: 0xee, State: 0xee, Node: 0xee, Next: 0xee}
	markedMsg   = api.Msg{Kind: 0xee, Obj: 0xee, Node: 0xee, Num: 0xee, Where: 0xee}
	markedOwn   = api.Own{Arrow: 0xee, Made: 0xee, Cells: []api.Cell{markedCell}}
	markedEdge  = api.Edge{Peer: 0xee, Base: 0xee, Seen: 0xee, Out: []api.Msg{markedMsg}}
	markedAsk   = api.Ask{Obj: 0xee, Num: 0xee}
	markedFound = api.Found{Obj: 0xee, Num: 0xee, Where: 0xee}
)

// words tells all that a state has as one list of numbers, each list's length ahead of it: states are alike just if their words are.
func words(s api.State) []int {
	out := []int{s.Me, s.Asked, len(s.Objs), len(s.Edges), len(s.Asks), len(s.Got)}
	for _, o := range s.Objs {
		out = append(out, ownWords(o)...)
	}
	for _, e := range s.Edges {
		out = append(out, e.Peer, e.Base, e.Seen, len(e.Out))
		for _, m := range e.Out {
			out = append(out, msgWords(m)...)
		}
	}
	for _, a := range s.Asks {
		out = append(out, askWords(a)...)
	}
	for _, f := range s.Got {
		out = append(out, foundWords(f)...)
	}
	return out
}

func ownWords(o api.Own) []int {
	out := []int{o.Arrow, o.Made, len(o.Cells)}
	for _, c := range o.Cells {
		out = append(out, cellWords(c)...)
	}
	return out
}

func cellWords(c api.Cell) []int   { return []int{c.Num, c.State, c.Node, c.Next} }
func msgWords(m api.Msg) []int     { return []int{m.Kind, m.Obj, m.Node, m.Num, m.Where} }
func askWords(a api.Ask) []int     { return []int{a.Obj, a.Num} }
func foundWords(f api.Found) []int { return []int{f.Obj, f.Num, f.Where} }

// spare answers the list with spare room behind it that holds marks.
func spare[T any](xs []T, mark T) []T {
	room := slices.Repeat([]T{mark}, len(xs)+5)
	return room[:copy(room, xs)]
}

// roomy answers the state in memory of its own, with spare room behind each of its lists.
func roomy(s api.State) api.State {
	s.Objs = spare(s.Objs, markedOwn)
	for i := range s.Objs {
		s.Objs[i].Cells = spare(s.Objs[i].Cells, markedCell)
	}
	s.Edges = spare(s.Edges, markedEdge)
	for i := range s.Edges {
		s.Edges[i].Out = spare(s.Edges[i].Out, markedMsg)
	}
	s.Asks = spare(s.Asks, markedAsk)
	s.Got = spare(s.Got, markedFound)
	return s
}

// list is one of a state's lists with its spare room: what stands in it, and a way to write into all of it. Where its entries have
// lists of their own, these are lists by themselves: they aren't told here, and aren't lost by the writing.
type list struct {
	words    func() []int
	scribble func()
}

func listOf[T any](xs []T, words func(x T) []int, write func(x *T)) list {
	xs = xs[:cap(xs)]
	return list{
		func() []int {
			var out []int
			for _, x := range xs {
				out = append(out, words(x)...)
			}
			return out
		},
		func() {
			for i := range xs {
				write(&xs[i])
			}
		},
	}
}

// lists answers all of a state's.
func lists(s api.State) []list {
	out := []list{
		listOf(s.Objs, func(o api.Own) []int { return []int{o.Arrow, o.Made} }, func(o *api.Own) { o.Arrow, o.Made = o.Arrow+1, o.Made+1 }),
		listOf(s.Edges, func(e api.Edge) []int { return []int{e.Peer, e.Base, e.Seen} }, func(e *api.Edge) { e.Peer, e.Base, e.Seen = e.Peer+1, e.Base+1, e.Seen+1 }),
		listOf(s.Asks, askWords, func(a *api.Ask) { a.Obj, a.Num = a.Obj+1, a.Num+1 }),
		listOf(s.Got, foundWords, func(f *api.Found) { f.Obj, f.Num, f.Where = f.Obj+1, f.Num+1, f.Where+1 }),
	}
	for _, o := range s.Objs {
		out = append(out, listOf(o.Cells, cellWords, func(c *api.Cell) { c.Num, c.State, c.Node, c.Next = c.Num+1, c.State+1, c.Node+1, c.Next+1 }))
	}
	for _, e := range s.Edges {
		out = append(out, listOf(e.Out, msgWords, func(g *api.Msg) { g.Kind, g.Num, g.Where = g.Kind+1, g.Num+1, g.Where+1 }))
	}
	return out
}

// scribble writes into all of a state's lists, and into their spare room.
func scribble(s api.State) {
	for _, l := range lists(s) {
		l.scribble()
	}
}

// told answers all that stands in a state's memory, spare room too.
func told(s api.State) [][]int {
	out := [][]int{words(s)}
	for _, l := range lists(s) {
		out = append(out, l.words())
	}
	return out
}

func checkUntouched(t *testing.T, what string, s api.State, want [][]int) {
	t.Helper()
	if !slices.EqualFunc(told(s), want, slices.Equal) {
		t.Fatalf("%s: what was handed in, or answered before, was written to: %+v", what, s)
	}
}

// checkApart: no two lists of a state share memory.
func checkApart(t *testing.T, what string, s api.State) {
	t.Helper()
	all := lists(s)
	for i, written := range all {
		var before [][]int
		for _, l := range all {
			before = append(before, l.words())
		}
		written.scribble()
		for j, l := range all {
			if i != j && !slices.Equal(l.words(), before[j]) {
				t.Fatalf("%s: the lists %d and %d share memory: %+v", what, i, j, s)
			}
		}
	}
}

// P15.6: neither is the argument changed, spare room included, nor does the answer hang together with it, or with another answer.
func TestAnswersAreNewMemory(t *testing.T) {
	wide(t, 61, 10, func(r *rand.Rand, x *tree.Tree, m model, s api.State) {
		for range 4 {
			ev := someEvent(r, m, s)
			in := roomy(s)
			before := told(in)
			first, num, e := core.Apply(x, in, ev)
			checkUntouched(t, "Apply", in, before)
			second, again, f := core.Apply(x, in, ev)
			if num != again || e != f || !same(first, second) {
				t.Fatalf("%+v of %+v: two answers: %d %d, %d %d", ev, brief(s), num, e, again, f)
			}
			want := told(second)
			scribble(first)
			checkUntouched(t, "Apply, its answer written into", in, before)
			checkUntouched(t, "Apply, another answer written into", second, want)
			scribble(in)
			checkUntouched(t, "Apply, the argument written into", second, want)
			checkApart(t, "Apply", second)
		}
	})
}

// P15.6: the next event's answer shares nothing with the state that it began with, itself an answer.
func TestAnswersOfAnswersAreNewMemory(t *testing.T) {
	wide(t, 62, 4, func(r *rand.Rand, x *tree.Tree, m model, s api.State) {
		for range 12 {
			was := told(s)
			is, _, e := core.Apply(x, s, someEvent(r, m, s))
			checkUntouched(t, "Apply", s, was)
			if e != api.OK {
				continue
			}
			want := told(is)
			scribble(s)
			checkUntouched(t, "Apply, the state ahead of it written into", is, want)
			s = is
		}
	})
}

// P15.6: of a state whose lists share memory too the answer's share none.
func TestSharedLists(t *testing.T) {
	x, m := made(t, -1, 0, 0)
	cells := []api.Cell{cell(1, holds, 0, 2), cell(2, waits, -1, 0)}
	out := []api.Msg{msg(find, 1, 2, 1, 0), msg(seek, 0, 2, 2, 0)}
	s := api.State{
		Objs:  []api.Own{{Made: 2, Cells: cells}, {Made: 2, Cells: cells}, {Made: 3, Cells: cells}},
		Edges: []api.Edge{{Peer: 1, Out: out}, {Peer: 2, Base: 1, Out: out[:1]}},
	}
	before := told(s)
	events := []api.Event{comes(1, 0, 1, 1, msg(find, 1, 1, 1, 0)), comes(2, 0, 2, 1, msg(pass, 2, 1, 4, 0))}
	for obj := range 3 {
		events = append(events, call(acquire, obj), call(release, obj), call(locate, obj))
	}
	for _, ev := range events {
		got := applied(t, x, m, s, ev)
		checkUntouched(t, "Apply", s, before)
		checkApart(t, "Apply", got)
	}
}

// P15.6: the spare room isn't read either.
func TestSpareRoomIsNotRead(t *testing.T) {
	wide(t, 63, 6, func(r *rand.Rand, x *tree.Tree, m model, s api.State) {
		for range 4 {
			checkApply(t, x, m, roomy(s), someEvent(r, m, s))
		}
	})
}

// P15.6, P1: an answer hangs on the arguments alone, also where calls run at one time, over one tree, of one state.
func TestCallsAtOneTime(t *testing.T) {
	x, m := made(t, -1, 0, 0, 1, 1, 2)
	shared := roomy(someGood(rand.New(rand.NewSource(64)), m, 1))
	before := told(shared)
	done := make(chan bool)
	for i := range 8 {
		go func() {
			r := rand.New(rand.NewSource(int64(i)))
			fine := true
			for range 200 {
				for _, s := range []api.State{shared, someGood(r, m, r.Intn(6))} {
					ev := someEvent(r, m, s)
					got, num, e := core.Apply(x, s, ev)
					want, wantNum, wantE := m.apply(s, ev)
					fine = fine && e == wantE && num == wantNum && same(got, want)
				}
			}
			done <- fine
		}()
	}
	for range 8 {
		if !<-done {
			t.Error("calls at one time answer otherwise")
		}
	}
	checkUntouched(t, "calls at one time", shared, before)
}

// P1: an empty list and none mean the same.
func TestEmptyAndNone(t *testing.T) {
	wide(t, 65, 6, func(r *rand.Rand, x *tree.Tree, m model, s api.State) {
		none, empty := emptied(s, true), emptied(s, false)
		for range 4 {
			ev := someEvent(r, m, s)
			got, num, e := checkApply(t, x, m, none, ev)
			want, wantNum, wantE := checkApply(t, x, m, empty, ev)
			if num != wantNum || e != wantE || !same(got, want) {
				t.Fatalf("%+v: %+v, and %+v", ev, brief(got), brief(want))
			}
		}
	})
}

// emptied answers the state with all its empty lists nil, or none of them.
func emptied(s api.State, none bool) api.State {
	s = apart(s)
	s.Asks, s.Got = hollow(s.Asks, none), hollow(s.Got, none)
	s.Edges = hollow(s.Edges, none)
	for i := range s.Objs {
		s.Objs[i].Cells = hollow(s.Objs[i].Cells, none)
	}
	for i := range s.Edges {
		s.Edges[i].Out = hollow(s.Edges[i].Out, none)
	}
	return s
}

func hollow[T any](xs []T, none bool) []T {
	switch {
	case len(xs) > 0:
		return xs
	case none:
		return nil
	}
	return []T{}
}
