package core_test

import (
	"math"
	"math/rand"
	"slices"
	"testing"

	"fletch/api"
	"fletch/tree"
)

// grown: a tree of n nodes under mixed numbers, each below the one that pick names among those that stand already.
func grown(r *rand.Rand, n int, pick func(i int) int) []int {
	name := r.Perm(n)
	parents := make([]int, n)
	parents[name[0]] = -1
	for i := 1; i < n; i++ {
		parents[name[i]] = name[pick(i)]
	}
	return parents
}

// shapes: trees of n nodes: long, flat, branched evenly, and any.
func shapes(r *rand.Rand, n int) [][]int {
	return [][]int{
		grown(r, n, func(i int) int { return i - 1 }),
		grown(r, n, func(i int) int { return 0 }),
		grown(r, n, func(i int) int { return (i - 1) / 2 }),
		grown(r, n, func(i int) int { return r.Intn(i) }),
	}
}

// someTrees goes over trees of many shapes, of up to 32 nodes.
func someTrees(t *testing.T, seed int64, visit func(r *rand.Rand, x *tree.Tree, m model)) {
	r := rand.New(rand.NewSource(seed))
	for _, n := range []int{1, 2, 3, 5, 9, 20, 31, 32} {
		for _, parents := range shapes(r, n) {
			x, m := made(t, parents...)
			visit(r, x, m)
		}
	}
}

// everyList goes over all lists of n of these.
func everyList[T any](n int, of []T, visit func(xs []T)) {
	xs := make([]T, n)
	var fill func(at int)
	fill = func(at int) {
		if at == n {
			visit(xs)
			return
		}
		for _, x := range of {
			xs[at] = x
			fill(at + 1)
		}
	}
	fill(0)
}

// someGood draws a state of the node me that can be, over the tree.
func someGood(r *rand.Rand, m model, me int) api.State {
	s := api.State{Me: me, Asked: someNumber(r)}
	room := mostWaiting
	for range 1 + r.Intn(mostObjects) {
		o := someOwn(r, m, me, r.Intn(min(room, 4)+1))
		room -= modelOpen(api.State{Objs: []api.Own{o}})
		s.Objs = append(s.Objs, o)
	}
	for _, peer := range m.neighbours(me) {
		e := api.Edge{Peer: peer, Base: someNumber(r), Seen: someNumber(r)}
		for range min(r.Intn(4), greatestNum-e.Base) {
			e.Out = append(e.Out, someMessage(r, m, len(s.Objs)))
		}
		s.Edges = append(s.Edges, e)
	}
	for num := 1 + r.Intn(3); num <= s.Asked && len(s.Asks) < mostAsks && r.Intn(8) > 0; num += 1 + r.Intn(3) {
		s.Asks = append(s.Asks, api.Ask{Obj: r.Intn(len(s.Objs)), Num: num})
	}
	for range min(r.Intn(mostGot+1), s.Asked) {
		s.Got = append(s.Got, api.Found{Obj: r.Intn(len(s.Objs)), Num: 1 + r.Intn(s.Asked), Where: r.Intn(m.size())})
	}
	return s
}

// someOwn draws what a node knows of an object, of which so many requests are open.
func someOwn(r *rand.Rand, m model, me, open int) api.Own {
	o := api.Own{Arrow: me}
	if near := m.neighbours(me); len(near) > 0 && r.Intn(3) > 0 {
		o.Arrow = near[r.Intn(len(near))]
	}
	if o.Arrow == me && open == 0 {
		o.Cells = []api.Cell{cell(r.Intn(3), rests, -1, 0)}
	}
	num := 1 + r.Intn(3)
	for range open {
		o.Cells = append(o.Cells, cell(num, waits, someOther(r, m, me), 1+someNumber(r)%greatestNum))
		num += 1 + r.Intn(3)
	}
	for i := range max(open-1, 0) {
		if m.size() == 1 || r.Intn(2) == 0 {
			o.Cells[i].Node, o.Cells[i].Next = me, o.Cells[i+1].Num
		}
	}
	if open > 0 && r.Intn(2) == 0 {
		o.Cells[0].State = holds
	}
	if open > 0 && o.Arrow == me {
		o.Cells[open-1].Node, o.Cells[open-1].Next = -1, 0
	}
	for _, c := range o.Cells {
		o.Made = c.Num
	}
	if r.Intn(3) > 0 {
		o.Made = min(o.Made+someNumber(r), greatestNum)
	}
	return o
}

// someOther draws another node than me; me, if there is none.
func someOther(r *rand.Rand, m model, me int) int {
	return (me + 1 + r.Intn(max(m.size()-1, 1))) % m.size()
}

func someMessage(r *rand.Rand, m model, objects int) api.Msg {
	g := api.Msg{Kind: 1 + r.Intn(4), Obj: r.Intn(objects), Node: r.Intn(m.size()), Num: 1 + someNumber(r)%greatestNum}
	if g.Kind == api.Tell {
		g.Where = r.Intn(m.size())
	}
	return g
}

// someNumber draws one from 0 to the greatest, of any length.
func someNumber(r *rand.Rand) int {
	if r.Intn(10) == 0 {
		return greatestNum - r.Intn(3)
	}
	return int(r.Int63n(greatestNum+1) >> r.Intn(42))
}

// numbers answers where all the numbers of a state stand, but the lengths of its lists.
func numbers(s *api.State) []*int {
	out := []*int{&s.Me, &s.Asked}
	for i := range s.Objs {
		o := &s.Objs[i]
		out = append(out, &o.Arrow, &o.Made)
		for j := range o.Cells {
			c := &o.Cells[j]
			out = append(out, &c.Num, &c.State, &c.Node, &c.Next)
		}
	}
	for i := range s.Edges {
		e := &s.Edges[i]
		out = append(out, &e.Peer, &e.Base, &e.Seen)
		for j := range e.Out {
			g := &e.Out[j]
			out = append(out, &g.Kind, &g.Obj, &g.Node, &g.Num, &g.Where)
		}
	}
	for i := range s.Asks {
		out = append(out, &s.Asks[i].Obj, &s.Asks[i].Num)
	}
	for i := range s.Got {
		out = append(out, &s.Got[i].Obj, &s.Got[i].Num, &s.Got[i].Where)
	}
	return out
}

// around: the numbers that can make a difference in the place of x.
func around(x, n, objects int) []int {
	out := []int{math.MinInt, -2, -1, 0, 1, 2, 3, 4, 5, 7, 8, lastNode, lastNode + 1, greatestNum - 1, greatestNum, greatestNum + 1, math.MaxInt}
	out = append(out, x-1, x, x+1, x+1<<32, -x, n-1, n, n+1, objects-1, objects)
	slices.Sort(out)
	return slices.Compact(out)
}

// apart answers the state in new memory, list by list.
func apart(s api.State) api.State {
	s.Objs = append([]api.Own(nil), s.Objs...)
	for i := range s.Objs {
		s.Objs[i].Cells = append([]api.Cell(nil), s.Objs[i].Cells...)
	}
	s.Edges = append([]api.Edge(nil), s.Edges...)
	for i := range s.Edges {
		s.Edges[i].Out = append([]api.Msg(nil), s.Edges[i].Out...)
	}
	s.Asks = append([]api.Ask(nil), s.Asks...)
	s.Got = append([]api.Found(nil), s.Got...)
	return s
}

// someEvent draws one for a state, near to what matters to it; it can be one of the state's.
func someEvent(r *rand.Rand, m model, s api.State) api.Event {
	near := m.neighbours(s.Me)
	if len(near) == 0 || r.Intn(3) == 0 {
		return call(1+r.Intn(3), r.Intn(len(s.Objs)))
	}
	e := s.Edges[r.Intn(len(near))]
	ack := []int{0, e.Base, e.Base + 1, e.Base + len(e.Out), e.Base + len(e.Out) + 1, someNumber(r)}[r.Intn(6)]
	seq := []int{e.Seen + 1, e.Seen + 1, e.Seen + 1, e.Seen, e.Seen + 2, 0, someNumber(r)}[r.Intn(7)]
	x := api.Msg{}
	if seq = min(seq, greatestNum); seq > 0 {
		x = aimed(r, m, s)
	}
	return comes(e.Peer, s.Me, min(ack, greatestNum), seq, x)
}

// aimed draws a message, often one that does something at its coming.
func aimed(r *rand.Rand, m model, s api.State) api.Msg {
	x := someMessage(r, m, len(s.Objs))
	if r.Intn(3) == 0 {
		x.Node = s.Me
	}
	cells := s.Objs[x.Obj].Cells
	switch {
	case x.Kind == pass && len(cells) > 0 && r.Intn(4) > 0:
		x.Num = max(cells[r.Intn(min(len(cells), 2))].Num, 1)
	case x.Kind == tell && len(s.Asks) > 0 && r.Intn(4) > 0:
		a := s.Asks[r.Intn(len(s.Asks))]
		x.Num = a.Num
		if r.Intn(4) > 0 {
			x.Obj = a.Obj
		}
	}
	return x
}

// crowded fills one of a state's edges to its limit, or to just below it.
func crowded(r *rand.Rand, m model, s api.State) {
	if len(s.Edges) == 0 {
		return
	}
	e := &s.Edges[r.Intn(len(s.Edges))]
	left := r.Intn(2)
	if r.Intn(2) == 0 {
		e.Base = greatestNum - len(e.Out) - left
		return
	}
	e.Base = min(e.Base, greatestNum-mostOut)
	e.Out = slices.Repeat([]api.Msg{someMessage(r, m, len(s.Objs))}, mostOut-left)
}
