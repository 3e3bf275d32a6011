package state_test

import (
	"slices"
	"testing"

	"fletch/api"
	"fletch/state"
	"fletch/tree"
)

// The numbers are written out here as the chapters have them, so that the model leans on no name of the program's.
const (
	waits       = 1
	holds       = 2
	rests       = 3
	greatestNum = 1099511627776
	lastNode    = 31
	mostObjects = 8
	mostOut     = 1024
	mostWaiting = 8
	mostAsks    = 4
	mostGot     = 4
)

// model is a tree as the distances between its nodes; all else is told from these. Of no nodes it stands for a nil tree.
type model struct {
	far [][]int
}

// modelOf tells the distances by going by each node in turn.
func modelOf(parents []int) model {
	const beyond = 1000 // more than any distance
	n := len(parents)
	m := model{far: make([][]int, n)}
	for a := range n {
		m.far[a] = slices.Repeat([]int{beyond}, n)
		m.far[a][a] = 0
	}
	for v, p := range parents {
		if p >= 0 {
			m.far[v][p], m.far[p][v] = 1, 1
		}
	}
	for by := range n {
		for a := range n {
			for b := range n {
				m.far[a][b] = min(m.far[a][b], m.far[a][by]+m.far[by][b])
			}
		}
	}
	return m
}

func (m model) size() int {
	return len(m.far)
}

func (m model) has(v int) bool {
	return slices.Contains(m.nodes(), v)
}

func (m model) nodes() []int {
	var out []int
	for v := range m.far {
		out = append(out, v)
	}
	return out
}

// neighbours: the nodes that are as far as one edge, rising.
func (m model) neighbours(v int) []int {
	var out []int
	for u, far := range m.far[v] {
		if far == 1 {
			out = append(out, u)
		}
	}
	return out
}

// next: where one is nearer to a node by one; itself at that node.
func (m model) next(from, to int) int {
	for _, u := range m.neighbours(from) {
		if m.far[u][to] < m.far[from][to] {
			return u
		}
	}
	return from
}

func (m model) homes(homes []int) api.Errno {
	fits := len(homes) > 0 && len(homes) <= mostObjects
	for _, home := range homes {
		fits = fits && m.has(home)
	}
	switch {
	case m.size() == 0:
		return 2
	case !fits:
		return 1
	}
	return 0
}

func (m model) first(homes []int, me int) (api.State, api.Errno) {
	if e := m.homes(homes); e != 0 || !m.has(me) {
		return api.State{}, max(e, 1)
	}
	s := api.State{Me: me, Objs: make([]api.Own, len(homes)), Edges: make([]api.Edge, len(m.neighbours(me)))}
	for i, home := range homes {
		s.Objs[i].Arrow = m.next(me, home)
		if m.far[me][home] == 0 {
			s.Objs[i].Cells = append(s.Objs[i].Cells, cell(0, rests, -1, 0))
		}
	}
	for i, peer := range m.neighbours(me) {
		s.Edges[i].Peer = peer
	}
	return s, 0
}

func (m model) meant(objects int, g api.Msg) bool {
	return g.Obj > -1 && objects > 0 && g.Obj <= objects-1 && m.has(g.Node) && m.has(g.Where)
}

// good answers as the chapter does, clause by clause.
func (m model) good(s api.State) bool {
	return len(m.broken(s)) == 0
}

func modelOpen(s api.State) int {
	open := 0
	for _, o := range s.Objs {
		for _, c := range o.Cells {
			if c.State == waits || c.State == holds {
				open++
			}
		}
	}
	return open
}

// words tells all that a state has as one list of numbers, each list's length ahead of it: states are alike just if their words are.
func words(s api.State) []int {
	out := []int{s.Me, s.Asked, len(s.Objs), len(s.Edges), len(s.Asks), len(s.Got)}
	for _, o := range s.Objs {
		out = append(out, ownWords(o)...)
	}
	for _, e := range s.Edges {
		out = append(out, edgeWords(e)...)
	}
	for _, a := range s.Asks {
		out = append(out, askWords(a)...)
	}
	for _, f := range s.Got {
		out = append(out, foundWords(f)...)
	}
	return out
}

func ownWords(o api.Own) []int {
	out := []int{o.Arrow, o.Made, len(o.Cells)}
	for _, c := range o.Cells {
		out = append(out, cellWords(c)...)
	}
	return out
}

func edgeWords(e api.Edge) []int {
	out := []int{e.Peer, e.Base, e.Seen, len(e.Out)}
	for _, m := range e.Out {
		out = append(out, msgWords(m)...)
	}
	return out
}

func cellWords(c api.Cell) []int   { return []int{c.Num, c.State, c.Node, c.Next} }
func msgWords(m api.Msg) []int     { return []int{m.Kind, m.Obj, m.Node, m.Num, m.Where} }
func askWords(a api.Ask) []int     { return []int{a.Obj, a.Num} }
func foundWords(f api.Found) []int { return []int{f.Obj, f.Num, f.Where} }

func cell(num, state, node, next int) api.Cell {
	return api.Cell{Num: num, State: state, Node: node, Next: next}
}

func made(t *testing.T, parents ...int) (*tree.Tree, model) {
	t.Helper()
	x, e := tree.New(parents)
	if e != api.OK {
		t.Fatalf("New(%v): %d", parents, e)
	}
	return x, modelOf(parents)
}

// begun answers the state in which a node begins, which the test takes for granted.
func begun(t *testing.T, x *tree.Tree, homes []int, me int) api.State {
	t.Helper()
	s, e := state.First(x, homes, me)
	if e != api.OK {
		t.Fatalf("First(%v, %d): %d", homes, me, e)
	}
	return s
}

func checkState(t *testing.T, what string, got, want api.State) {
	t.Helper()
	if !slices.Equal(words(got), words(want)) {
		t.Fatalf("%s: %+v, not %+v", what, got, want)
	}
}

func checkFirst(t *testing.T, x *tree.Tree, m model, homes []int, me int) api.Errno {
	t.Helper()
	if got, want := state.Homes(x, homes), m.homes(homes); got != want {
		t.Fatalf("Homes(%v) over %v: %d, not %d", homes, m.far, got, want)
	}
	got, e := state.First(x, homes, me)
	want, wantE := m.first(homes, me)
	if e != wantE || !slices.Equal(words(got), words(want)) {
		t.Fatalf("First(%v, %d) over %v: %+v, %d, not %+v, %d", homes, me, m.far, got, e, want, wantE)
	}
	return e
}

func checkMeant(t *testing.T, x *tree.Tree, m model, objects int, g api.Msg) bool {
	t.Helper()
	got := state.Meant(x, objects, g)
	if got != m.meant(objects, g) {
		t.Fatalf("Meant(%d, %+v) over %v: %v", objects, g, m.far, got)
	}
	return got
}

// checkGood answers what of the chapter's conditions the state breaks.
func checkGood(t *testing.T, x *tree.Tree, m model, s api.State) []string {
	t.Helper()
	broken := m.broken(s)
	if got := state.Good(x, s); got != (len(broken) == 0) {
		t.Fatalf("Good(%+v) over %v: %v, but broken are: %q", brief(s), m.far, got, broken)
	}
	return broken
}

// brief answers the state without all of its long lists.
func brief(s api.State) api.State {
	s.Edges = slices.Clone(s.Edges)
	for i := range s.Edges {
		s.Edges[i].Out = s.Edges[i].Out[:min(len(s.Edges[i].Out), 5)]
	}
	return s
}

func checkSame(t *testing.T, a, b api.State) bool {
	t.Helper()
	want := slices.Equal(words(a), words(b))
	if got, back := state.Same(a, b), state.Same(b, a); got != want || back != want {
		t.Fatalf("Same of %+v and %+v: %v, and back %v", a, b, got, back)
	}
	return want
}
