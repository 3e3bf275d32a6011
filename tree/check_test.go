package tree_test

import (
	"math"
	"math/rand"
	"slices"
	"testing"

	"fletch/api"
	"fletch/tree"
)

func checkFault(t *testing.T, parents []int, at int, e api.Errno) {
	t.Helper()
	if gotAt, got := tree.Check(parents); gotAt != at || got != e {
		t.Fatalf("Check(%v): %d, %d, not %d, %d", parents, gotAt, got, at, e)
	}
	x, got := tree.New(parents)
	if got != e || (x == nil) != (e != api.OK) {
		t.Fatalf("New(%v): %d, not %d, and a tree: %v", parents, got, e, x != nil)
	}
}

// P4.1: known lists, at each edge that the document names.
func TestFaults(t *testing.T) {
	for _, c := range []struct {
		parents []int
		at      int
		e       api.Errno
	}{
		{nil, 0, api.ErrArg},
		{[]int{}, 0, api.ErrArg},
		{[]int{-1}, 0, api.OK},
		{[]int{-1, 0, 0, 1}, 0, api.OK},
		{[]int{1, 2, -1}, 0, api.OK},
		{[]int{0}, 0, api.ErrTree},
		{[]int{-2}, 0, api.ErrTree},
		{[]int{1}, 0, api.ErrTree},
		{[]int{-1, -1}, 1, api.ErrTree},
		{[]int{1, -1, -1, -1}, 2, api.ErrTree},
		{[]int{-1, 7}, 1, api.ErrTree},
		{[]int{-1, 2}, 1, api.ErrTree},
		{[]int{-1, -2}, 1, api.ErrTree},
		{[]int{-1, 1}, 1, api.ErrTree},
		{[]int{-1, math.MinInt}, 1, api.ErrTree},
		{[]int{-1, math.MaxInt}, 1, api.ErrTree},
		{[]int{-1, 2, 1}, 1, api.ErrTree},
		{[]int{1, 0}, 0, api.ErrTree},
		{[]int{1, 2, 0}, 0, api.ErrTree},
		{[]int{2, -1, 3, 2}, 0, api.ErrTree},
		{[]int{1, -1, 3, 4, 2}, 2, api.ErrTree},
		{[]int{4, 0, -1, 2, 1}, 0, api.ErrTree},
		{[]int{1, 0, 9}, 2, api.ErrTree},
		{[]int{1, 0, -1, -1}, 3, api.ErrTree},
		{[]int{1, 0, 2, -1, -1}, 2, api.ErrTree},
		{[]int{-1, 2, 1, -2, -1}, 3, api.ErrTree},
	} {
		checkFault(t, c.parents, c.at, c.e)
	}
}

// P4.1: 32 nodes are no fault, 33 and more are, ahead of every fault of theirs.
func TestMostNodes(t *testing.T) {
	for _, n := range []int{31, 32, 33, 34, 64, 100000} {
		line := make([]int, n)
		for v := range line {
			line[v] = v - 1
		}
		want := api.OK
		if n > 32 {
			want = api.ErrLong
		}
		checkFault(t, line, 0, want)
		slices.Reverse(line) // a node's parent isn't a node just behind it now: the numbers must be turned too
		for v := range line {
			if line[v] >= 0 {
				line[v] = n - 1 - line[v]
			}
		}
		checkFault(t, line, 0, want)
	}
	for _, p := range []int{-2, -1, 0, 33, 34, math.MaxInt} {
		checkFault(t, slices.Repeat([]int{p}, 33), 0, api.ErrLong)
	}
}

// P4.1: every list of up to five parents.
func TestEveryList(t *testing.T) {
	trees := 0
	for n := range 6 {
		everyList(n, func(parents []int) {
			at, e := modelCheck(parents)
			checkFault(t, parents, at, e)
			if e == api.OK {
				trees++
			}
		})
	}
	if trees != 1+2+9+64+625 { // so many rooted trees there are
		t.Errorf("%d trees", trees)
	}
}

// P4.1: trees of up to 32 nodes, and those with a parent or two turned.
func TestTurnedParents(t *testing.T) {
	r := rand.New(rand.NewSource(1))
	for n := 1; n <= 32; n++ {
		for range 10 {
			for _, parents := range shapes(r, n) {
				checkFault(t, parents, 0, api.OK)
				for range 1 + r.Intn(2) {
					parents[r.Intn(n)] = r.Intn(n+3) - 2
				}
				at, e := modelCheck(parents)
				checkFault(t, parents, at, e)
			}
		}
	}
}

// P4.1: a way up may have as many nodes as the tree; one that goes round may too.
func TestLongWaysUp(t *testing.T) {
	r := rand.New(rand.NewSource(2))
	for n := 2; n <= 32; n++ {
		parents := grown(r, n, func(i int) int { return i - 1 })
		checkFault(t, parents, 0, api.OK)
		root, last := slices.Index(parents, -1), 0
		for v := range parents {
			if !slices.Contains(parents, v) {
				last = v
			}
		}
		parents[root] = last
		checkFault(t, parents, 0, api.ErrTree)
	}
}
