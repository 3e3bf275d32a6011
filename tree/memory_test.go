package tree_test

import (
	"math/rand"
	"slices"
	"testing"

	"fletch/api"
	"fletch/tree"
)

const marked = 0x5ee

// roomy answers xs with spare room behind it that holds marks.
func roomy(xs []int) []int {
	room := slices.Repeat([]int{marked}, len(xs)+8)
	return room[:copy(room, xs)]
}

// scribble writes into a list and its spare room.
func scribble(xs []int) {
	xs = xs[:cap(xs)]
	for i := range xs {
		xs[i] = i * 3 % 5
	}
}

// P4.4: Check and New change neither the parents nor their spare room, of a tree or of none.
func TestParentsStay(t *testing.T) {
	for _, want := range [][]int{{-1, 0, 0, 1}, {2, 2, -1}, {-1, -1}, {-1, 2, 1}, {5}, {}, make([]int, 40)} {
		parents := roomy(want)
		tree.Check(parents)
		tree.New(parents)
		if !slices.Equal(parents, want) {
			t.Errorf("the parents %v are %v now", want, parents)
		}
		for _, p := range parents[len(parents):cap(parents)] {
			if p != marked {
				t.Errorf("behind the parents %v the spare room was written to", want)
				break
			}
		}
	}
}

// P4.4: a tree, and what is gone over in it, keep nothing of the caller's list.
func TestTreeKeepsNothingOfTheCaller(t *testing.T) {
	r := rand.New(rand.NewSource(10))
	for _, n := range []int{1, 2, 6, 32} {
		for _, want := range shapes(r, n) {
			parents := roomy(want)
			x, m := made(t, parents)
			asked := goings(x, m, r.Intn(n), r.Intn(n))
			scribble(parents)
			checkTree(t, x, m)
			for _, g := range asked {
				checkGoing(t, g)
			}
		}
	}
}

// P4.4: what Neighbours answers is the caller's, its spare room too: neither the tree nor another answer sees what is written there.
func TestNeighboursAnswersNewMemory(t *testing.T) {
	r := rand.New(rand.NewSource(11))
	for _, n := range []int{1, 2, 6, 32} {
		for _, parents := range shapes(r, n) {
			x, m := made(t, parents)
			asked := goings(x, m, r.Intn(n), r.Intn(n))
			var kept [][]int
			for v := range n {
				kept = append(kept, x.Neighbours(v))
				for range 2 {
					got := x.Neighbours(v)
					scribble(got)
					scribble(append(got, 1, 2))
				}
			}
			for v, got := range kept {
				if !slices.Equal(got, m.neighbours(v)) {
					t.Fatalf("two answers of Neighbours(%d) share memory", v)
				}
				scribble(got)
			}
			checkTree(t, x, m)
			for _, g := range asked {
				checkGoing(t, g)
			}
		}
	}
}

// P4.4: so it may be written to while the tree is gone over.
func TestNeighboursWhileGoneOver(t *testing.T) {
	r := rand.New(rand.NewSource(12))
	for _, parents := range shapes(r, 24) {
		x, m := made(t, parents)
		for _, g := range goings(x, m, 5, 17) {
			var got []pair
			for a, b := range g.all {
				got = append(got, pair{a, b})
				for v := range 24 {
					scribble(x.Neighbours(v))
				}
			}
			if !slices.Equal(got, g.want) {
				t.Fatalf("%s: %v, not %v", g.what, got, g.want)
			}
		}
	}
}

// P4.4, P1: two trees, of the same parents too, have nothing in common.
func TestTwoTrees(t *testing.T) {
	parents := []int{1, -1, 1, 0}
	x, m := made(t, parents)
	y, _ := made(t, parents)
	parents[0], parents[1], parents[3] = -1, 0, 2
	z, n := made(t, parents)
	scribble(x.Neighbours(1))
	checkTree(t, x, m)
	checkTree(t, y, m)
	checkTree(t, z, n)
	if none, e := tree.New([]int{-1, 5}); none != nil || e != api.ErrTree {
		t.Errorf("New of no tree: %v, %d", none, e)
	}
	checkTree(t, x, m)
	checkTree(t, z, n)
}

// P4.2, P1: a nil tree has no node, no root, and nothing to go over.
func TestNilTree(t *testing.T) {
	var x *tree.Tree
	if x.Size() != 0 || x.Root() != -1 {
		t.Errorf("Size %d, Root %d", x.Size(), x.Root())
	}
	for _, a := range append(strangers(5), 0, 1, 31) {
		if got := x.Neighbours(a); len(got) != 0 {
			t.Errorf("Neighbours(%d): %v", a, got)
		}
		for _, b := range append(strangers(5), 0, 1, 31) {
			checkWay(t, x, model{}, a, b)
			for _, g := range goings(x, model{}, a, b) {
				for range 2 {
					checkGoing(t, g)
				}
			}
		}
	}
}
