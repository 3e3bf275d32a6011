package arrow_test

import (
	"iter"
	"math"
	"math/rand"
	"slices"
	"testing"

	"fletch/arrow"
	"fletch/tree"
)

// P12.1: every list of up to five numbers in and around its places, from each place and from what is none.
func TestFollowOfEveryList(t *testing.T) {
	for n := range 6 {
		everyList(n, -1, n, func(arrows []int) {
			for from := -2; from <= n+1; from++ {
				checkFollow(t, arrows, from)
			}
		})
	}
}

// P12.1: known ways: to a sink, round, back to one in their midst, out of the list at either end.
func TestKnownWays(t *testing.T) {
	for _, c := range []struct {
		arrows []int
		from   int
		way    []int
	}{
		{nil, 0, nil},
		{[]int{}, 0, nil},
		{nil, -1, nil},
		{[]int{0}, 0, []int{0}},
		{[]int{0}, 1, nil},
		{[]int{0}, -1, nil},
		{[]int{-1}, 0, []int{0}},
		{[]int{1}, 0, []int{0}},
		{[]int{1, 2, 2}, 0, []int{0, 1, 2}},
		{[]int{1, 2, 0}, 1, []int{1, 2, 0}},
		{[]int{1, 2, 3, 1}, 0, []int{0, 1, 2, 3}},
		{[]int{1, 0}, 0, []int{0, 1}},
		{[]int{3, 2, 0, -5}, 1, []int{1, 2, 0, 3}},
		{[]int{3, 2, 0, 4}, 1, []int{1, 2, 0, 3}},
		{[]int{1, math.MaxInt}, 0, []int{0, 1}},
		{[]int{1, math.MinInt}, 0, []int{0, 1}},
		{[]int{1 << 32, 0}, 1, []int{1, 0}},
		{[]int{-1 << 32, 0}, 1, []int{1, 0}},
	} {
		if got := slices.Collect(arrow.Follow(c.arrows, c.from)); !slices.Equal(got, c.way) {
			t.Errorf("Follow(%v, %d): %v, not %v", c.arrows, c.from, got, c.way)
		}
		for _, s := range strangers(len(c.arrows)) {
			if got := slices.Collect(arrow.Follow(c.arrows, s)); len(got) != 0 {
				t.Errorf("Follow(%v, %d): %v", c.arrows, s, got)
			}
		}
	}
}

// P12.1: lists that are longer than any tree: one way by all places, and round, and any.
func TestFollowOfLongLists(t *testing.T) {
	r := rand.New(rand.NewSource(21))
	for _, n := range []int{33, 64, 100, 1000} {
		order := r.Perm(n)
		arrows := make([]int, n)
		for i, v := range order {
			arrows[v] = order[(i+1)%n]
		}
		checkFollow(t, arrows, order[0])
		if got := slices.Collect(arrow.Follow(arrows, order[0])); !slices.Equal(got, order) {
			t.Fatalf("round by %d places: %d of them", n, len(got))
		}
		for _, end := range append(strangers(n), order[n-1], order[n/2]) {
			arrows[order[n-1]] = end
			checkFollow(t, arrows, order[0])
			checkFollow(t, arrows, order[n-1])
		}
		for i := range arrows {
			arrows[i] = r.Intn(n)
		}
		for from := range n {
			checkFollow(t, arrows, from)
		}
	}
}

// P12.3: in quiet arrows the way from any node is the path to the sink, which has one node more than edges.
func TestFollowIsThePathToTheSink(t *testing.T) {
	all := func(x *tree.Tree, m model) {
		for home := range m.size() {
			arrows := arrow.Toward(x, home)
			for from := range m.size() {
				way := slices.Collect(arrow.Follow(arrows, from))
				if !slices.Equal(way, m.path(from, home)) || !slices.Equal(way, slices.Collect(x.Path(from, home))) || len(way) != x.Dist(from, home)+1 {
					t.Fatalf("Follow(%v, %d): %v", arrows, from, way)
				}
			}
		}
	}
	everyTree(5, func(parents []int) { all(made(t, parents)) })
	someTrees(t, 22, func(_ *rand.Rand, x *tree.Tree, m model) { all(x, m) })
}

// P12.3: and so it is behind any row of finds.
func TestFollowBehindFinds(t *testing.T) {
	someTrees(t, 23, func(r *rand.Rand, x *tree.Tree, m model) {
		arrows := arrow.Toward(x, 0)
		for range 20 {
			sink := r.Intn(m.size())
			arrows, _ = arrow.Run(x, arrows, sink)
			for from := range m.size() {
				if way := slices.Collect(arrow.Follow(arrows, from)); !slices.Equal(way, m.path(from, sink)) {
					t.Fatalf("Follow(%v, %d): %v", arrows, from, way)
				}
			}
		}
	})
}

// someWays: lists with a place to begin at, and the ways from there.
func someWays(visit func(arrows []int, from int, want []int)) {
	r := rand.New(rand.NewSource(24))
	for _, n := range []int{0, 1, 2, 5, 30} {
		for range 10 {
			order := r.Perm(n + 1)
			arrows := make([]int, n+1)
			for i, v := range order {
				arrows[v] = order[min(i+1, n)]
			}
			arrows[order[r.Intn(n+1)]] = r.Intn(n+3) - 1
			visit(arrows, order[0], modelFollow(arrows, order[0]))
		}
	}
}

func checkWay(t *testing.T, what string, way iter.Seq[int], want []int) {
	t.Helper()
	if got := slices.Collect(way); !slices.Equal(got, want) {
		t.Fatalf("%s: %v, not %v", what, got, want)
	}
}

// P12.1, P1: one answer may be gone over again and again.
func TestAgain(t *testing.T) {
	someWays(func(arrows []int, from int, want []int) {
		way := arrow.Follow(arrows, from)
		for range 3 {
			checkWay(t, "Follow", way, want)
		}
	})
}

// P12.1, P1: who stops, behind any number of steps, is asked no more; the next going is a whole one.
func TestStopped(t *testing.T) {
	someWays(func(arrows []int, from int, want []int) {
		way := arrow.Follow(arrows, from)
		for stop := 1; stop <= len(want); stop++ {
			var got []int
			way(func(v int) bool {
				got = append(got, v)
				return len(got) < stop
			})
			if !slices.Equal(got, want[:stop]) {
				t.Fatalf("stopped at step %d: %v, not %v", stop, got, want[:stop])
			}
		}
		checkWay(t, "Follow behind stopped ones", way, want)
	})
}

// P12.1, P1: one answer is gone over within itself, whole and stopped.
func TestWithinItself(t *testing.T) {
	someWays(func(arrows []int, from int, want []int) {
		way := arrow.Follow(arrows, from)
		var outer []int
		for v := range way {
			outer = append(outer, v)
			checkWay(t, "Follow within itself", way, want)
			for range way {
				break
			}
		}
		if !slices.Equal(outer, want) {
			t.Fatalf("Follow around itself: %v, not %v", outer, want)
		}
	})
}

// P12.1, P1: several goings over one answer, and over answers of several calls, don't know of one another.
func TestGoingsAtOneTime(t *testing.T) {
	arrows := []int{1, 2, 3, 4, 5, 6, 7, 7}
	way := arrow.Follow(arrows, 0)
	one, stopOne := iter.Pull(way)
	two, stopTwo := iter.Pull(way)
	three, stopThree := iter.Pull(arrow.Follow(arrows, 3))
	defer stopOne()
	defer stopTwo()
	defer stopThree()
	two()
	for i := range 10 {
		for _, c := range []struct {
			next func() (int, bool)
			want int
		}{{one, i}, {two, i + 1}, {three, i + 3}} {
			v, ok := c.next()
			if ok != (c.want < 8) || ok && v != c.want {
				t.Fatalf("step %d: %d, %v, not %d", i, v, ok, c.want)
			}
		}
	}
}

// P12.4, P1: an answer goes over what was there at its call, whatever is written into the list behind it.
func TestChangesBehindTheCall(t *testing.T) {
	someWays(func(arrows []int, from int, want []int) {
		way := arrow.Follow(arrows, from)
		scribble(arrows)
		checkWay(t, "Follow behind a change", way, want)
		scribble(arrows)
		checkWay(t, "Follow behind a change, again", way, want)
	})
}

// P12.4, P1: nor is a change seen that is made while it is gone over.
func TestChangesWhileGoneOver(t *testing.T) {
	someWays(func(arrows []int, from int, want []int) {
		way := arrow.Follow(arrows, from)
		var got []int
		for v := range way {
			got = append(got, v)
			scribble(arrows)
		}
		if !slices.Equal(got, want) {
			t.Fatalf("%v, not %v", got, want)
		}
		checkWay(t, "Follow, gone over again", way, want)
	})
}
