package image_test

import (
	"math/rand"
	"slices"
	"strings"
	"testing"

	"fletch/api"
	"fletch/core"
	"fletch/image"
	"fletch/state"
	"fletch/tree"
)

// P16.1, P16.2: known images, by their written-out bytes, there and back.
func TestKnownImages(t *testing.T) {
	for _, c := range known {
		if !image.Has(c.s) {
			t.Errorf("Has(%+v): false", c.s)
		}
		if b, e := image.Encode(c.s); string(b) != c.image || e != api.OK {
			t.Errorf("Encode(%+v): % x, %d, not % x", c.s, b, e, c.image)
		}
		checkState(t, []byte(c.image), c.s)
		if want, e := modelEncode(c.s); want != c.image || e != api.OK {
			t.Errorf("the model's image of %+v is % x, not % x", c.s, want, c.image)
		}
	}
}

// P16.1: Has and Encode with each number of a state on both sides of its limits and far beyond them; some state breaks each
// condition alone.
func TestNumbersAroundTheirLimits(t *testing.T) {
	alone := map[string]int{}
	full := rich()
	for i, p := range numbersOf(&full) {
		for _, x := range around(*p.at, p.low, p.high) {
			s := rich()
			*numbersOf(&s)[i].at = x
			if out := checkEncode(t, s); len(out) == 1 {
				alone[out[0]]++
			}
		}
	}
	for _, p := range numbersOf(&full) {
		if alone[p.name] < 8 {
			t.Errorf("%s was broken alone just %d times", p.name, alone[p.name])
		}
	}
}

// P16.1: Has and Encode with as many entries in each list as there can be, and with one more and many more.
func TestLengthsAroundTheirLimits(t *testing.T) {
	for name, most := range map[string]int{"Objs": 8, "Edges": 32, "Asks": 4, "Got": 4, "Cells": 9, "Out": 1024} {
		for _, many := range []int{0, 1, 2, most - 1, most, most + 1, most + 2, 2 * most, most + 256, 1<<16 + most} {
			out := checkEncode(t, stretched(rich(), name, many))
			if fits := many <= most; fits != (len(out) == 0) {
				t.Errorf("%d %s: broken are %q", many, name, out)
			}
		}
	}
}

// P16.1: lists beyond their limits have no image, whatever stands in the other ones and in their own entries.
func TestLongListsOfNothing(t *testing.T) {
	for _, s := range []api.State{
		{Objs: make([]api.Own, 9)}, {Edges: make([]api.Edge, 33)}, {Asks: make([]api.Ask, 5)}, {Got: make([]api.Found, 5)},
		{Objs: make([]api.Own, 1<<20)}, {Edges: make([]api.Edge, 1<<20)}, {Asks: make([]api.Ask, 1<<20)}, {Got: make([]api.Found, 1<<20)},
		{Objs: []api.Own{{}, {Cells: fill([]api.Cell{{State: 1}}, 10)}}},
		{Edges: []api.Edge{{}, {Out: fill([]api.Msg{{Kind: 1, Num: 1}}, 1025)}}},
	} {
		if b, e := image.Encode(s); image.Has(s) || len(b) != 0 || e != api.ErrState {
			t.Errorf("Has: %v, Encode: % x, %d", image.Has(s), b, e)
		}
	}
	for _, s := range []api.State{
		{Objs: make([]api.Own, 8)}, {Edges: make([]api.Edge, 32)}, {Asks: make([]api.Ask, 4)}, {Got: make([]api.Found, 4)},
		{Objs: []api.Own{{}, {Cells: fill([]api.Cell{{State: 1}}, 9)}}},
		{Edges: []api.Edge{{}, {Out: fill([]api.Msg{{Kind: 1, Num: 1}}, 1024)}}},
	} {
		if out := checkEncode(t, s); len(out) > 0 {
			t.Errorf("broken are %q", out)
		}
	}
}

// P16.1: a side's messages are numbered up to MaxNum at most.
func TestBaseWithTheMessages(t *testing.T) {
	for _, many := range []int{0, 1, 2, 127, 128, 1023, 1024} {
		for room := -2; room < 3; room++ {
			s := stretched(rich(), "Out", many)
			s.Edges[1].Base = greatestNum - many - room
			out := checkEncode(t, s)
			if (room >= 0) != (len(out) == 0) {
				t.Errorf("%d messages above %d: broken are %q", many, s.Edges[1].Base, out)
			}
		}
	}
}

// P16.1: a number beyond its limits counts wherever it stands in its list, and one that fits doesn't cover it.
func TestEachEntryCounts(t *testing.T) {
	s := apart(fullest())
	places := numbersOf(&s)
	for i, p := range places {
		if strings.HasPrefix(p.name, "a message") && i%331 > 0 { // not each of the many messages
			continue
		}
		was := *p.at
		*p.at = 1 << 41
		if image.Has(s) {
			t.Errorf("with the number %d, %s, at 2^41 the state has an image", i, p.name)
		}
		*p.at = was
	}
	for _, s := range []api.State{s, greatestAll(s), greatestAll(rich())} {
		if out := checkEncode(t, s); len(out) > 0 {
			t.Errorf("broken are %q", out)
		}
	}
}

// P16.1: what only a tree, or other parts of the state, would forbid has an image: entries of any order, cells that follow no law.
func TestStatesThatCannotBeHaveImages(t *testing.T) {
	for _, s := range []api.State{
		{},
		{Me: 3, Objs: []api.Own{{Arrow: 30}}},
		{Objs: []api.Own{{Cells: []api.Cell{{Num: 5, State: api.Resting, Node: 1}, {Num: 4, State: api.Held, Node: -1, Next: 7}, {State: api.Waiting}}}}},
		{Objs: []api.Own{{Made: 1, Cells: []api.Cell{{Num: 2, State: api.Waiting, Node: -1}}}}},
		{Edges: []api.Edge{{Peer: 5}, {Peer: 0}, {Peer: 5}}},
		{Edges: []api.Edge{{Out: []api.Msg{{Kind: api.Find, Obj: 7, Num: 1}}}}},
		{Asks: []api.Ask{{Obj: 7, Num: 5}, {Num: 5}, {Num: 0}}, Got: []api.Found{{Obj: 7, Num: 9, Where: 31}}},
	} {
		if out := checkEncode(t, s); len(out) > 0 {
			t.Errorf("%+v: broken are %q", s, out)
		}
	}
}

// P16.1: many states, with and without an image.
func TestManyStates(t *testing.T) {
	r := rand.New(rand.NewSource(1))
	told := map[bool]int{}
	for range 20000 {
		s := someState(r)
		if out := checkEncode(t, s); len(out) > 0 {
			t.Fatalf("%+v: broken are %q", s, out)
		}
		places := numbersOf(&s)
		for range 1 + r.Intn(2) {
			p := places[r.Intn(len(places))]
			xs := around(*p.at, p.low, p.high)
			*p.at = xs[r.Intn(len(xs))]
		}
		told[len(checkEncode(t, s)) == 0]++
	}
	if told[true] < 1000 || told[false] < 1000 {
		t.Errorf("%v", told)
	}
}

// P16.1: each state that can be, over any tree, has an image; the events that lead from one to the next have bytes. Here it is the
// states that a run goes through, with datagrams lost and late.
func TestStatesOfRuns(t *testing.T) {
	r := rand.New(rand.NewSource(2))
	for _, parents := range [][]int{{-1}, {-1, 0}, {2, 2, -1, 2, 0}, someParents(r, 9), someParents(r, 32), append([]int{-1}, make([]int, 31)...)} {
		x, e := tree.New(parents)
		if e != api.OK {
			t.Fatalf("%v: %d", parents, e)
		}
		homes := make([]int, 1+r.Intn(mostObjs))
		for i := range homes {
			homes[i] = r.Intn(len(parents))
		}
		run(t, r, x, homes)
	}
}

// someParents draws a tree of n nodes, each below one with a lower number.
func someParents(r *rand.Rand, n int) []int {
	parents := []int{-1}
	for v := 1; v < n; v++ {
		parents = append(parents, r.Intn(v))
	}
	return parents
}

// run goes through events at any nodes, and holds each state that they lead to against its image.
func run(t *testing.T, r *rand.Rand, x *tree.Tree, homes []int) {
	t.Helper()
	nodes := make([]api.State, x.Size())
	for v := range nodes {
		nodes[v], _ = state.First(x, homes, v)
		checkEncode(t, nodes[v])
	}
	for range 2000 {
		v := r.Intn(len(nodes))
		ev := api.Event{Kind: 1 + r.Intn(3), Obj: r.Intn(len(homes))}
		if edges := nodes[v].Edges; len(edges) > 0 && r.Intn(4) > 0 {
			ev = api.Event{Kind: api.EvGram, Gram: sent(r, nodes, edges[r.Intn(len(edges))].Peer, v)}
		}
		s, _, e := core.Apply(x, nodes[v], ev)
		if e != api.OK {
			continue
		}
		nodes[v] = s
		if out := checkEncode(t, s); len(out) > 0 {
			t.Fatalf("%+v: broken are %q", s, out)
		}
		checkEvent(t, ev)
	}
}

// sent answers a datagram with the message that u must send v next, or with none.
func sent(r *rand.Rand, nodes []api.State, u, v int) api.Gram {
	side := func(u, v int) api.Edge {
		at := slices.IndexFunc(nodes[u].Edges, func(e api.Edge) bool { return e.Peer == v })
		return nodes[u].Edges[at]
	}
	from, to := side(u, v), side(v, u)
	g := api.Gram{From: u, To: v, Ack: from.Seen}
	if at := to.Seen - from.Base; at < len(from.Out) && r.Intn(8) > 0 {
		g.Seq, g.Msg = to.Seen+1, from.Out[at]
	}
	return g
}
