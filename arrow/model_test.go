package arrow_test

import (
	"cmp"
	"math"
	"math/rand"
	"slices"
	"testing"

	"fletch/api"
	"fletch/arrow"
	"fletch/tree"
)

// model is a tree as the distances between its nodes; all else is told from these.
type model struct {
	far [][]int
}

// modelOf tells the distances by going by each node in turn.
func modelOf(parents []int) model {
	const beyond = 1000 // more than any distance
	n := len(parents)
	m := model{far: make([][]int, n)}
	for a := range n {
		m.far[a] = slices.Repeat([]int{beyond}, n)
		m.far[a][a] = 0
	}
	for v, p := range parents {
		if p >= 0 {
			m.far[v][p], m.far[p][v] = 1, 1
		}
	}
	for by := range n {
		for a := range n {
			for b := range n {
				m.far[a][b] = min(m.far[a][b], m.far[a][by]+m.far[by][b])
			}
		}
	}
	return m
}

func (m model) size() int {
	return len(m.far)
}

func (m model) has(v int) bool {
	return v >= 0 && v < m.size()
}

// near answers whether a node's arrow can be to.
func (m model) near(v, to int) bool {
	return m.has(to) && m.far[v][to] <= 1
}

// path: the nodes by which a way is no longer than the shortest one, in the order in which they are come to.
func (m model) path(a, b int) []int {
	var out []int
	for v := range m.size() {
		if m.far[a][v]+m.far[v][b] == m.far[a][b] {
			out = append(out, v)
		}
	}
	slices.SortFunc(out, func(u, v int) int { return cmp.Compare(m.far[a][u], m.far[a][v]) })
	return out
}

// toward: of each node the one near it that is nearer to home by one; of home itself.
func (m model) toward(home int) []int {
	if !m.has(home) {
		return nil
	}
	var out []int
	for v := range m.size() {
		for u := range m.size() {
			if m.near(v, u) && m.far[u][home] == max(m.far[v][home]-1, 0) {
				out = append(out, u)
			}
		}
	}
	return out
}

func (m model) legal(arrows []int) bool {
	if m.size() == 0 || len(arrows) != m.size() {
		return false
	}
	for v, to := range arrows {
		if !m.near(v, to) {
			return false
		}
	}
	return true
}

// sink: the node to which all arrows lead; -1 if there is none such. Quiet are just the arrows of which there is one.
func (m model) sink(arrows []int) int {
	for home := range m.size() {
		if slices.Equal(arrows, m.toward(home)) {
			return home
		}
	}
	return -1
}

// quietByTheWords asks for each of the chapter's conditions by itself.
func (m model) quietByTheWords(arrows []int) bool {
	if !m.legal(arrows) || len(modelSinks(arrows)) != 1 {
		return false
	}
	for u := range m.size() {
		for v := range u {
			there, back := arrows[u] == v, arrows[v] == u
			if m.far[u][v] == 1 && (there && back || !there && !back) {
				return false
			}
		}
	}
	return true
}

// run: a find makes the arrows lead to its sender, and stops where they led to.
func (m model) run(arrows []int, from int) ([]int, int) {
	sink := m.sink(arrows)
	if sink < 0 || !m.has(from) {
		return nil, -1
	}
	return m.toward(from), sink
}

func modelSinks(arrows []int) []int {
	var out []int
	for v := range arrows {
		if arrows[v]-v == 0 {
			out = append(out, v)
		}
	}
	return out
}

// modelFollow: the way from a place on, up to the first number that is no place or is in it already.
func modelFollow(arrows []int, from int) []int {
	var way []int
	for from >= 0 && from < len(arrows) && !slices.Contains(way, from) {
		way = append(way, from)
		from = arrows[from]
	}
	return way
}

func made(t *testing.T, parents []int) (*tree.Tree, model) {
	t.Helper()
	x, e := tree.New(parents)
	if e != api.OK {
		t.Fatalf("New(%v): %d", parents, e)
	}
	return x, modelOf(parents)
}

// checkArrows holds every call's answer against the model's; it answers whether the arrows are quiet.
func checkArrows(t *testing.T, x *tree.Tree, m model, arrows []int) bool {
	t.Helper()
	quiet := m.sink(arrows) >= 0
	if quiet != m.quietByTheWords(arrows) {
		t.Fatalf("the model doesn't know whether %v are quiet over %v", arrows, m.far)
	}
	if got := arrow.Legal(x, arrows); got != m.legal(arrows) {
		t.Fatalf("Legal(%v) over %v: %v", arrows, m.far, got)
	}
	if got := arrow.Quiet(x, arrows); got != quiet {
		t.Fatalf("Quiet(%v) over %v: %v", arrows, m.far, got)
	}
	checkSinks(t, arrows)
	for v := -2; v < m.size()+2; v++ {
		checkFollow(t, arrows, v)
		checkRun(t, x, m, arrows, v)
	}
	return quiet
}

func checkSinks(t *testing.T, arrows []int) {
	t.Helper()
	if got := arrow.Sinks(arrows); !slices.Equal(got, modelSinks(arrows)) {
		t.Fatalf("Sinks(%v): %v", arrows, got)
	}
}

func checkFollow(t *testing.T, arrows []int, from int) {
	t.Helper()
	if got := slices.Collect(arrow.Follow(arrows, from)); !slices.Equal(got, modelFollow(arrows, from)) {
		t.Fatalf("Follow(%v, %d): %v", arrows, from, got)
	}
}

func checkRun(t *testing.T, x *tree.Tree, m model, arrows []int, from int) {
	t.Helper()
	want, sink := m.run(arrows, from)
	if got, at := arrow.Run(x, arrows, from); at != sink || !slices.Equal(got, want) {
		t.Fatalf("Run(%v, %d): %v, %d, not %v, %d", arrows, from, got, at, want, sink)
	}
}

// everyList goes over all lists of n numbers from low to high.
func everyList(n, low, high int, visit func(xs []int)) {
	xs := make([]int, n)
	var fill func(at int)
	fill = func(at int) {
		if at == n {
			visit(xs)
			return
		}
		for x := low; x <= high; x++ {
			xs[at] = x
			fill(at + 1)
		}
	}
	fill(0)
}

// everyTree goes over all trees of up to most nodes.
func everyTree(most int, visit func(parents []int)) {
	for n := 1; n <= most; n++ {
		everyList(n, -1, n-1, func(parents []int) {
			if _, e := tree.Check(parents); e == api.OK {
				visit(parents)
			}
		})
	}
}

// everyLegal goes over all legal arrows over a tree.
func everyLegal(m model, visit func(arrows []int)) {
	arrows := make([]int, m.size())
	var fill func(v int)
	fill = func(v int) {
		if v == m.size() {
			visit(arrows)
			return
		}
		for to := range m.size() {
			if m.near(v, to) {
				arrows[v] = to
				fill(v + 1)
			}
		}
	}
	fill(0)
}

// grown: a tree of n nodes under mixed numbers, each below the one that pick names among those that stand already.
func grown(r *rand.Rand, n int, pick func(i int) int) []int {
	name := r.Perm(n)
	parents := make([]int, n)
	parents[name[0]] = -1
	for i := 1; i < n; i++ {
		parents[name[i]] = name[pick(i)]
	}
	return parents
}

// shapes: trees of n nodes: long, flat, branched evenly, and any.
func shapes(r *rand.Rand, n int) [][]int {
	return [][]int{
		grown(r, n, func(i int) int { return i - 1 }),
		grown(r, n, func(i int) int { return 0 }),
		grown(r, n, func(i int) int { return (i - 1) / 2 }),
		grown(r, n, func(i int) int { return r.Intn(i) }),
	}
}

// someTrees goes over trees of many shapes, of up to 32 nodes.
func someTrees(t *testing.T, seed int64, visit func(r *rand.Rand, x *tree.Tree, m model)) {
	r := rand.New(rand.NewSource(seed))
	for _, n := range []int{1, 2, 3, 7, 20, 31, 32} {
		for _, parents := range shapes(r, n) {
			x, m := made(t, parents)
			visit(r, x, m)
		}
	}
}

// strangers: numbers that are no nodes of a tree of n.
func strangers(n int) []int {
	return []int{math.MinInt, math.MinInt + 1, -1 << 32, -n - 1, -2, -1, n, n + 1, n + 31, 1 << 32, math.MaxInt}
}
