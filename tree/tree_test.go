package tree_test

import (
	"iter"
	"math/rand"
	"slices"
	"testing"

	"fletch/api"
	"fletch/tree"
)

func gathered(all iter.Seq2[int, int]) []pair {
	var out []pair
	for a, b := range all {
		out = append(out, pair{a, b})
	}
	return out
}

// P4.2: the chapter's examples.
func TestExamples(t *testing.T) {
	x, e := tree.New([]int{-1, 0, 0, 1})
	if e != api.OK || x.Size() != 4 || x.Root() != 0 {
		t.Fatalf("New: %d, Size %d, Root %d", e, x.Size(), x.Root())
	}
	if got := x.Neighbours(0); !slices.Equal(got, []int{1, 2}) {
		t.Errorf("Neighbours(0): %v", got)
	}
	if x.Next(3, 2) != 1 || x.Next(0, 3) != 1 || x.Next(2, 2) != 2 || x.Next(0, 4) != -1 {
		t.Errorf("Next: %d, %d, %d, %d", x.Next(3, 2), x.Next(0, 3), x.Next(2, 2), x.Next(0, 4))
	}
	if got := slices.Collect(x.Path(3, 2)); !slices.Equal(got, []int{3, 1, 0, 2}) {
		t.Errorf("Path(3, 2): %v", got)
	}
	if got := x.Dist(3, 2); got != 3 {
		t.Errorf("Dist(3, 2): %d", got)
	}
	if got := gathered(x.Edges()); !slices.Equal(got, []pair{{0, 1}, {0, 2}, {1, 3}}) {
		t.Errorf("Edges: %v", got)
	}
	if got := gathered(x.Walk(1)); !slices.Equal(got, []pair{{1, 0}, {0, 1}, {2, 2}, {3, 1}}) {
		t.Errorf("Walk(1): %v", got)
	}
}

// checkTree asks for all that the tree can tell, of its nodes and of others.
func checkTree(t *testing.T, x *tree.Tree, m model) {
	t.Helper()
	n := m.size()
	if x.Size() != n || x.Root() != m.root {
		t.Fatalf("Size %d, Root %d, not %d, %d", x.Size(), x.Root(), n, m.root)
	}
	if got := gathered(x.Edges()); !slices.Equal(got, m.edges()) {
		t.Fatalf("Edges: %v, not %v", got, m.edges())
	}
	for a := range n {
		if got := x.Neighbours(a); !slices.Equal(got, m.neighbours(a)) {
			t.Fatalf("Neighbours(%d): %v, not %v", a, got, m.neighbours(a))
		}
		if got := gathered(x.Walk(a)); !slices.Equal(got, m.walk(a)) {
			t.Fatalf("Walk(%d): %v, not %v", a, got, m.walk(a))
		}
		for b := range n {
			checkWay(t, x, m, a, b)
		}
	}
}

func checkWay(t *testing.T, x *tree.Tree, m model, a, b int) {
	t.Helper()
	if got := x.Next(a, b); got != m.next(a, b) {
		t.Fatalf("Next(%d, %d): %d, not %d", a, b, got, m.next(a, b))
	}
	if got := x.Dist(a, b); got != m.dist(a, b) {
		t.Fatalf("Dist(%d, %d): %d, not %d", a, b, got, m.dist(a, b))
	}
	if got := slices.Collect(x.Path(a, b)); !slices.Equal(got, m.path(a, b)) {
		t.Fatalf("Path(%d, %d): %v, not %v", a, b, got, m.path(a, b))
	}
}

// P4.2: every tree of up to five nodes.
func TestEveryTree(t *testing.T) {
	everyTree(5, func(parents []int) {
		x, m := made(t, parents)
		checkTree(t, x, m)
	})
}

// P4.2: trees of many shapes, of up to 32 nodes.
func TestShapes(t *testing.T) {
	r := rand.New(rand.NewSource(3))
	for n := 1; n <= 32; n++ {
		for _, parents := range shapes(r, n) {
			x, m := made(t, parents)
			checkTree(t, x, m)
		}
	}
}

// P4.2: where one of the nodes isn't there, or both aren't, there is no neighbour, no path, no distance.
func TestNoSuchNode(t *testing.T) {
	r := rand.New(rand.NewSource(4))
	for _, n := range []int{1, 2, 5, 31} {
		for _, parents := range shapes(r, n) {
			x, m := made(t, parents)
			for _, s := range strangers(n) {
				checkStranger(t, x, m, s)
			}
		}
	}
	x, m := made(t, grown(r, 32, func(i int) int { return i - 1 }))
	for _, s := range strangers(32) {
		checkStranger(t, x, m, s)
	}
}

func checkStranger(t *testing.T, x *tree.Tree, m model, s int) {
	t.Helper()
	if m.has(s) {
		return
	}
	if got := x.Neighbours(s); len(got) != 0 {
		t.Fatalf("Neighbours(%d): %v", s, got)
	}
	if got := gathered(x.Walk(s)); got != nil {
		t.Fatalf("Walk(%d): %v", s, got)
	}
	for v := range m.size() {
		checkWay(t, x, m, s, v)
		checkWay(t, x, m, v, s)
	}
	for _, other := range strangers(m.size()) {
		if !m.has(other) {
			checkWay(t, x, m, s, other)
		}
	}
}

// P4.3: there as far as back, the way back is the way turned round, and each step to the end is nearer by one.
func TestThereAndBack(t *testing.T) {
	r := rand.New(rand.NewSource(5))
	for _, n := range []int{1, 2, 3, 7, 20, 32} {
		for _, parents := range shapes(r, n) {
			x, _ := made(t, parents)
			for a := range n {
				for b := range n {
					checkThereAndBack(t, x, a, b)
				}
			}
		}
	}
}

func checkThereAndBack(t *testing.T, x *tree.Tree, a, b int) {
	t.Helper()
	far := x.Dist(a, b)
	if x.Dist(b, a) != far {
		t.Fatalf("Dist(%d, %d): %d, and back %d", a, b, far, x.Dist(b, a))
	}
	there, back := slices.Collect(x.Path(a, b)), slices.Collect(x.Path(b, a))
	slices.Reverse(back)
	if !slices.Equal(there, back) || len(there) != far+1 {
		t.Fatalf("Path(%d, %d): %v, and back, turned round, %v", a, b, there, back)
	}
	for v := a; v != b; {
		next := x.Next(v, b)
		if x.Dist(next, b) != x.Dist(v, b)-1 || !slices.Contains(x.Neighbours(v), next) {
			t.Fatalf("Next(%d, %d): %d", v, b, next)
		}
		v = next
	}
}
