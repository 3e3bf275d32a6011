package core_test

import (
	"slices"
	"testing"

	"fletch/api"
	"fletch/core"
	"fletch/state"
	"fletch/tree"
)

// The numbers are written out here as the document has them, so that the model leans on no name of the program's.
const (
	waits       = 1
	holds       = 2
	rests       = 3
	find        = 1
	pass        = 2
	seek        = 3
	tell        = 4
	acquire     = 1
	release     = 2
	locate      = 3
	datagram    = 4
	greatestNum = 1099511627776
	lastNode    = 31
	mostObjects = 8
	mostOut     = 1024
	mostWaiting = 8
	mostAsks    = 4
	mostGot     = 4
)

// model is a tree as the distances between its nodes; all else is told from these. Of no nodes it stands for a nil tree.
type model struct {
	far [][]int
}

// modelOf tells the distances by going by each node in turn.
func modelOf(parents []int) model {
	const beyond = 1000 // more than any distance
	n := len(parents)
	m := model{far: make([][]int, n)}
	for a := range n {
		m.far[a] = slices.Repeat([]int{beyond}, n)
		m.far[a][a] = 0
	}
	for v, p := range parents {
		if p >= 0 {
			m.far[v][p], m.far[p][v] = 1, 1
		}
	}
	for by := range n {
		for a := range n {
			for b := range n {
				m.far[a][b] = min(m.far[a][b], m.far[a][by]+m.far[by][b])
			}
		}
	}
	return m
}

func (m model) size() int {
	return len(m.far)
}

func (m model) has(v int) bool {
	return !beyond(v, 0, m.size()-1)
}

func (m model) nodes() []int {
	var out []int
	for v := range m.far {
		out = append(out, v)
	}
	return out
}

// neighbours: the nodes that are as far as one edge, rising.
func (m model) neighbours(v int) []int {
	var out []int
	for u, far := range m.far[v] {
		if far == 1 {
			out = append(out, u)
		}
	}
	return out
}

// next: where one is nearer to a node by one; itself at that node.
func (m model) next(from, to int) int {
	for _, u := range m.neighbours(from) {
		if m.far[u][to] < m.far[from][to] {
			return u
		}
	}
	return from
}

// good answers as layer 14's chapter does, clause by clause.
func (m model) good(s api.State) bool {
	return len(m.broken(s)) == 0
}

func modelOpen(s api.State) int {
	open := 0
	for _, o := range s.Objs {
		for _, c := range o.Cells {
			if c.State == waits || c.State == holds {
				open++
			}
		}
	}
	return open
}

// apply answers as the chapter does. A message is pushed whether there is room or not: that there was none shows at the end.
func (m model) apply(s api.State, ev api.Event) (api.State, int, api.Errno) {
	if e := m.refused(s, ev); e != 0 {
		return api.State{}, 0, e
	}
	s = apart(s)
	num := 0
	switch ev.Kind {
	case acquire:
		num = m.acquired(&s, ev.Obj)
	case release:
		m.released(&s, ev.Obj)
	case locate:
		s.Asked++
		num = s.Asked
		s.Asks = append(s.Asks, api.Ask{Obj: ev.Obj, Num: num})
		m.sought(&s, msg(seek, ev.Obj, s.Me, num, 0))
	case datagram:
		m.came(&s, ev.Gram)
	}
	for _, e := range s.Edges {
		if len(e.Out) > mostOut || e.Base+len(e.Out) > greatestNum {
			return api.State{}, 0, 23
		}
	}
	return s, num, 0
}

// refused answers the error that there is ahead of all that an event does.
func (m model) refused(s api.State, ev api.Event) api.Errno {
	call := slices.Contains([]int{acquire, release, locate}, ev.Kind)
	switch {
	case m.size() == 0:
		return 2
	case !m.good(s):
		return 24
	case !call && (ev.Kind != datagram || !m.canCome(s, ev.Gram)):
		return 25
	case call && beyond(ev.Obj, 0, len(s.Objs)-1):
		return 20
	case ev.Kind == acquire && modelOpen(s) == mostWaiting:
		return 21
	case ev.Kind == acquire && s.Objs[ev.Obj].Made == greatestNum:
		return 23
	case ev.Kind == release && !slices.ContainsFunc(s.Objs[ev.Obj].Cells, func(c api.Cell) bool { return c.State == holds }):
		return 22
	case ev.Kind == locate && len(s.Asks) == mostAsks:
		return 21
	case ev.Kind == locate && s.Asked == greatestNum:
		return 23
	}
	return 0
}

func (m model) canCome(s api.State, g api.Gram) bool {
	edge := g.To == s.Me && slices.Contains(m.neighbours(s.Me), g.From)
	if !edge || beyond(g.Ack, 0, greatestNum) || beyond(g.Seq, 0, greatestNum) {
		return false
	}
	if g.Seq == 0 {
		return g.Msg == msg(0, 0, 0, 0, 0)
	}
	x := g.Msg
	fits := !beyond(x.Kind, 1, 4) && !beyond(x.Obj, 0, len(s.Objs)-1) && m.has(x.Node) && !beyond(x.Num, 1, greatestNum)
	return fits && m.has(x.Where) && (x.Kind == tell || x.Where == 0)
}

func (m model) acquired(s *api.State, obj int) int {
	o := &s.Objs[obj]
	o.Made++
	to := o.Arrow
	o.Arrow = s.Me
	last := len(o.Cells) - 1
	switch {
	case to != s.Me:
		pushed(s, to, msg(find, obj, s.Me, o.Made, 0))
		o.Cells = append(o.Cells, cell(o.Made, waits, -1, 0))
	case o.Cells[last].State == rests:
		o.Cells = []api.Cell{cell(o.Made, holds, -1, 0)}
	default:
		o.Cells[last].Node, o.Cells[last].Next = s.Me, o.Made
		o.Cells = append(o.Cells, cell(o.Made, waits, -1, 0))
	}
	return o.Made
}

// released: of cells that can be just the first one can hold the object.
func (m model) released(s *api.State, obj int) {
	o := &s.Objs[obj]
	done := o.Cells[0]
	switch done.Node {
	case -1:
		o.Cells[0].State = rests
	case s.Me:
		o.Cells = o.Cells[1:]
		o.Cells[0].State = holds
	default:
		o.Cells = o.Cells[1:]
		pushed(s, m.next(s.Me, done.Node), msg(pass, obj, done.Node, done.Next, 0))
	}
}

func (m model) came(s *api.State, g api.Gram) {
	e := &s.Edges[slices.Index(m.neighbours(s.Me), g.From)]
	if heard := g.Ack - e.Base; heard > 0 && heard <= len(e.Out) {
		e.Base, e.Out = g.Ack, e.Out[heard:]
	}
	if g.Seq == 0 || g.Seq-e.Seen != 1 {
		return
	}
	e.Seen = g.Seq
	switch g.Msg.Kind {
	case find:
		m.found(s, g.Msg, g.From)
	case seek:
		m.sought(s, g.Msg)
	default:
		m.going(s, g.Msg)
	}
}

func (m model) found(s *api.State, x api.Msg, from int) {
	o := &s.Objs[x.Obj]
	if x.Node == s.Me {
		return
	}
	to := o.Arrow
	o.Arrow = from
	last := len(o.Cells) - 1
	switch {
	case to != s.Me:
		pushed(s, to, x)
	case o.Cells[last].State == rests:
		o.Cells = nil
		pushed(s, m.next(s.Me, x.Node), msg(pass, x.Obj, x.Node, x.Num, 0))
	default:
		o.Cells[last].Node, o.Cells[last].Next = x.Node, x.Num
	}
}

func (m model) sought(s *api.State, x api.Msg) {
	if to := s.Objs[x.Obj].Arrow; to != s.Me {
		pushed(s, to, x)
		return
	}
	m.going(s, msg(tell, x.Obj, x.Node, x.Num, s.Me))
}

// going: a Pass or a Tell goes towards its Node.
func (m model) going(s *api.State, x api.Msg) {
	o := &s.Objs[x.Obj]
	switch {
	case x.Node != s.Me:
		pushed(s, m.next(s.Me, x.Node), x)
	case x.Kind == pass:
		if len(o.Cells) > 0 && o.Cells[0].Num == x.Num && o.Cells[0].State == waits {
			o.Cells[0].State = holds
		}
	default:
		answered(s, x)
	}
}

func answered(s *api.State, x api.Msg) {
	for i, a := range s.Asks {
		if a.Num != x.Num || a.Obj != x.Obj {
			continue
		}
		s.Asks = append(s.Asks[:i], s.Asks[i+1:]...)
		s.Got = append(s.Got, api.Found{Obj: x.Obj, Num: x.Num, Where: x.Where})
		if len(s.Got) == mostGot+1 {
			s.Got = s.Got[1:]
		}
		return
	}
}

func pushed(s *api.State, to int, x api.Msg) {
	for i := range s.Edges {
		if s.Edges[i].Peer == to {
			s.Edges[i].Out = append(s.Edges[i].Out, x)
		}
	}
}

// same: whether two states are alike in every field; an empty list is alike to none.
func same(a, b api.State) bool {
	return a.Me == b.Me && a.Asked == b.Asked && slices.Equal(a.Asks, b.Asks) && slices.Equal(a.Got, b.Got) &&
		slices.EqualFunc(a.Objs, b.Objs, sameOwn) && slices.EqualFunc(a.Edges, b.Edges, sameEdge)
}

func sameOwn(a, b api.Own) bool {
	return a.Arrow == b.Arrow && a.Made == b.Made && slices.Equal(a.Cells, b.Cells)
}

func sameEdge(a, b api.Edge) bool {
	return a.Peer == b.Peer && a.Base == b.Base && a.Seen == b.Seen && slices.Equal(a.Out, b.Out)
}

func cell(num, state, node, next int) api.Cell {
	return api.Cell{Num: num, State: state, Node: node, Next: next}
}

func msg(kind, obj, node, num, where int) api.Msg {
	return api.Msg{Kind: kind, Obj: obj, Node: node, Num: num, Where: where}
}

// call answers a client's; with a Gram that plays no part, if there is one.
func call(kind, obj int, grams ...api.Gram) api.Event {
	ev := api.Event{Kind: kind, Obj: obj}
	for _, g := range grams {
		ev.Gram = g
	}
	return ev
}

// comes answers a datagram as an event.
func comes(from, to, ack, seq int, m api.Msg) api.Event {
	return api.Event{Kind: datagram, Gram: api.Gram{From: from, To: to, Ack: ack, Seq: seq, Msg: m}}
}

func made(t *testing.T, parents ...int) (*tree.Tree, model) {
	t.Helper()
	x, e := tree.New(parents)
	if e != api.OK {
		t.Fatalf("New(%v): %d", parents, e)
	}
	return x, modelOf(parents)
}

// begun answers the state in which a node begins, which the test takes for granted.
func begun(t *testing.T, x *tree.Tree, homes []int, me int) api.State {
	t.Helper()
	s, e := state.First(x, homes, me)
	if e != api.OK {
		t.Fatalf("First(%v, %d): %d", homes, me, e)
	}
	return s
}

func checkState(t *testing.T, what string, got, want api.State) {
	t.Helper()
	if !same(got, want) {
		t.Fatalf("%s: %+v, not %+v", what, brief(got), brief(want))
	}
}

// checkApply holds an answer against the model's; it answers it.
func checkApply(t *testing.T, x *tree.Tree, m model, s api.State, ev api.Event) (api.State, int, api.Errno) {
	t.Helper()
	got, num, e := core.Apply(x, s, ev)
	want, wantNum, wantE := m.apply(s, ev)
	if e != wantE || num != wantNum || !same(got, want) {
		t.Fatalf("Apply(%+v) of %+v over %v:\n%+v, %d, %d, not\n%+v, %d, %d", ev, brief(s), m.far, brief(got), num, e, brief(want), wantNum, wantE)
	}
	return got, num, e
}

// applied answers the state behind an event that isn't to be refused.
func applied(t *testing.T, x *tree.Tree, m model, s api.State, ev api.Event) api.State {
	t.Helper()
	s, _, e := checkApply(t, x, m, s, ev)
	if e != api.OK {
		t.Fatalf("Apply(%+v): %d", ev, e)
	}
	return s
}

// brief answers the state without all of its long lists.
func brief(s api.State) api.State {
	s.Edges = slices.Clone(s.Edges)
	for i := range s.Edges {
		s.Edges[i].Out = s.Edges[i].Out[:min(len(s.Edges[i].Out), 5)]
	}
	return s
}
