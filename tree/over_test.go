package tree_test

import (
	"iter"
	"math/rand"
	"slices"
	"testing"

	"fletch/tree"
)

// going is something that can be gone over, and what it goes over.
type going struct {
	what string
	all  iter.Seq2[int, int]
	want []pair
}

// paired lets a path be gone over as the others are: each node is told twice.
func paired(path iter.Seq[int]) iter.Seq2[int, int] {
	return func(yield func(int, int) bool) {
		path(func(v int) bool { return yield(v, v) })
	}
}

// goings: all that can be gone over in a tree, from some nodes of it.
func goings(x *tree.Tree, m model, a, b int) []going {
	var path []pair
	for _, v := range m.path(a, b) {
		path = append(path, pair{v, v})
	}
	return []going{
		{"Path", paired(x.Path(a, b)), path},
		{"Edges", x.Edges(), m.edges()},
		{"Walk", x.Walk(a), m.walk(a)},
	}
}

// someGoings: those of trees of many shapes and sizes.
func someGoings(t *testing.T, seed int64, visit func(g going)) {
	r := rand.New(rand.NewSource(seed))
	for _, n := range []int{1, 2, 3, 9, 32} {
		for _, parents := range shapes(r, n) {
			x, m := made(t, parents)
			for _, g := range goings(x, m, r.Intn(n), r.Intn(n)) {
				visit(g)
			}
		}
	}
}

func checkGoing(t *testing.T, g going) {
	t.Helper()
	if got := gathered(g.all); !slices.Equal(got, g.want) {
		t.Fatalf("%s: %v, not %v", g.what, got, g.want)
	}
}

// P4.2, P1: one answer may be gone over again and again.
func TestAgain(t *testing.T) {
	someGoings(t, 6, func(g going) {
		for range 3 {
			checkGoing(t, g)
		}
	})
}

// P4.2, P1: who stops, behind any number of steps, is asked no more; the next going is a whole one.
func TestStopped(t *testing.T) {
	someGoings(t, 7, func(g going) {
		for stop := 1; stop <= len(g.want); stop++ {
			var got []pair
			g.all(func(a, b int) bool {
				got = append(got, pair{a, b})
				return len(got) < stop
			})
			if !slices.Equal(got, g.want[:stop]) {
				t.Fatalf("%s, stopped at step %d: %v, not %v", g.what, stop, got, g.want[:stop])
			}
		}
		checkGoing(t, g)
	})
}

// P4.2, P1: one answer is gone over within itself, whole and stopped.
func TestWithinItself(t *testing.T) {
	someGoings(t, 8, func(g going) {
		var outer []pair
		for a, b := range g.all {
			outer = append(outer, pair{a, b})
			checkGoing(t, g)
			for range g.all {
				break
			}
		}
		if !slices.Equal(outer, g.want) {
			t.Fatalf("%s around itself: %v, not %v", g.what, outer, g.want)
		}
	})
}

// P4.2, P1: answers of several calls, on one tree and on two, don't know of one another.
func TestGoingsAtOneTime(t *testing.T) {
	r := rand.New(rand.NewSource(9))
	x, m := made(t, grown(r, 20, func(i int) int { return r.Intn(i) }))
	y, n := made(t, grown(r, 20, func(i int) int { return i - 1 }))
	one, stopOne := iter.Pull2(x.Walk(3))
	other, stopOther := iter.Pull2(x.Walk(11))
	far, stopFar := iter.Pull2(y.Walk(3))
	defer stopOne()
	defer stopOther()
	defer stopFar()
	for i := range 20 {
		for _, c := range []struct {
			next func() (int, int, bool)
			want pair
		}{{one, m.walk(3)[i]}, {other, m.walk(11)[i]}, {far, n.walk(3)[i]}} {
			if v, far, ok := c.next(); v != c.want.a || far != c.want.b || !ok {
				t.Fatalf("step %d: %d, %d, %v, not %v", i, v, far, ok, c.want)
			}
		}
	}
}
