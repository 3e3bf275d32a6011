package tree_test

import (
	"cmp"
	"math"
	"math/rand"
	"slices"
	"testing"

	"fletch/api"
	"fletch/tree"
)

// pair is two nodes, or a node and its distance.
type pair struct{ a, b int }

// model is a tree as the distances between its nodes; all else is told from these.
type model struct {
	root int
	far  [][]int
}

// modelOf tells the distances by going by each node in turn, on good parents.
func modelOf(parents []int) model {
	const beyond = 1000 // more than any distance
	n := len(parents)
	m := model{far: make([][]int, n)}
	for a := range n {
		m.far[a] = slices.Repeat([]int{beyond}, n)
		m.far[a][a] = 0
	}
	for v, p := range parents {
		if p < 0 {
			m.root = v
			continue
		}
		m.far[v][p], m.far[p][v] = 1, 1
	}
	for by := range n {
		for a := range n {
			for b := range n {
				m.far[a][b] = min(m.far[a][b], m.far[a][by]+m.far[by][b])
			}
		}
	}
	return m
}

func (m model) size() int {
	return len(m.far)
}

func (m model) has(v int) bool {
	return v >= 0 && v < m.size()
}

// path: the nodes by which a way is no longer than the shortest one, in the order in which they are come to.
func (m model) path(a, b int) []int {
	var out []int
	if !m.has(a) || !m.has(b) {
		return out
	}
	for v := range m.size() {
		if m.far[a][v]+m.far[v][b] == m.far[a][b] {
			out = append(out, v)
		}
	}
	slices.SortFunc(out, func(u, v int) int { return cmp.Compare(m.far[a][u], m.far[a][v]) })
	return out
}

func (m model) dist(a, b int) int {
	if !m.has(a) || !m.has(b) {
		return -1
	}
	return m.far[a][b]
}

func (m model) next(a, b int) int {
	switch way := m.path(a, b); len(way) {
	case 0:
		return -1
	case 1:
		return a
	default:
		return way[1]
	}
}

func (m model) neighbours(v int) []int {
	var out []int
	for u := range m.size() {
		if m.dist(v, u) == 1 {
			out = append(out, u)
		}
	}
	return out
}

func (m model) edges() []pair {
	var out []pair
	for u := range m.size() {
		for v := u + 1; v < m.size(); v++ {
			if m.far[u][v] == 1 {
				out = append(out, pair{u, v})
			}
		}
	}
	return out
}

// walk: all nodes in the order of their paths from from, held against each other node by node.
func (m model) walk(from int) []pair {
	if !m.has(from) {
		return nil
	}
	var ways [][]int
	for v := range m.size() {
		ways = append(ways, m.path(from, v))
	}
	slices.SortFunc(ways, slices.Compare)
	var out []pair
	for _, way := range ways {
		out = append(out, pair{way[len(way)-1], len(way) - 1})
	}
	return out
}

// modelCheck names the first fault; which nodes lead to a root it tells by gathering them from the roots on.
func modelCheck(parents []int) (int, api.Errno) {
	n := len(parents)
	if n == 0 {
		return 0, api.ErrArg
	}
	if n > 32 {
		return 0, api.ErrLong
	}
	roots := 0
	led := make([]bool, n)
	for v, p := range parents {
		if p == -1 {
			roots++
			led[v] = true
		}
		if p < -1 || p >= n || p == v || p == -1 && roots == 2 {
			return v, api.ErrTree
		}
	}
	for range n {
		for v, p := range parents {
			led[v] = led[v] || led[p]
		}
	}
	if v := slices.Index(led, false); v >= 0 {
		return v, api.ErrTree
	}
	return 0, api.OK
}

func made(t *testing.T, parents []int) (*tree.Tree, model) {
	t.Helper()
	x, e := tree.New(parents)
	if e != api.OK || x == nil {
		t.Fatalf("New(%v): %d", parents, e)
	}
	return x, modelOf(parents)
}

// everyList goes over all lists of n parents from -2 to n.
func everyList(n int, visit func(parents []int)) {
	parents := make([]int, n)
	var fill func(at int)
	fill = func(at int) {
		if at == n {
			visit(parents)
			return
		}
		for p := -2; p <= n; p++ {
			parents[at] = p
			fill(at + 1)
		}
	}
	fill(0)
}

// everyTree goes over all trees of up to most nodes.
func everyTree(most int, visit func(parents []int)) {
	for n := 1; n <= most; n++ {
		everyList(n, func(parents []int) {
			if _, e := modelCheck(parents); e == api.OK {
				visit(parents)
			}
		})
	}
}

// grown: a tree of n nodes under mixed numbers, each below the one that pick names among those that stand already.
func grown(r *rand.Rand, n int, pick func(i int) int) []int {
	name := r.Perm(n)
	parents := make([]int, n)
	parents[name[0]] = -1
	for i := 1; i < n; i++ {
		parents[name[i]] = name[pick(i)]
	}
	return parents
}

// shapes: trees of n nodes: long, flat, branched evenly, with a long stem, and any.
func shapes(r *rand.Rand, n int) [][]int {
	return [][]int{
		grown(r, n, func(i int) int { return i - 1 }),
		grown(r, n, func(i int) int { return 0 }),
		grown(r, n, func(i int) int { return (i - 1) / 2 }),
		grown(r, n, func(i int) int { return max(i-2, 0) }),
		grown(r, n, func(i int) int { return i - 1 - r.Intn(min(i, 3)) }),
		grown(r, n, func(i int) int { return r.Intn(i) }),
	}
}

// strangers: numbers that are no nodes of a tree of n.
func strangers(n int) []int {
	return []int{math.MinInt, -n, -2, -1, n, n + 1, 32, 33, math.MaxInt}
}
