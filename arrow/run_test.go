package arrow_test

import (
	"math/rand"
	"slices"
	"testing"

	"fletch/arrow"
	"fletch/tree"
)

// checkPromise holds one find against what P12.2 says of it; it answers the arrows behind it.
func checkPromise(t *testing.T, x *tree.Tree, arrows []int, from int) []int {
	t.Helper()
	sink := arrow.Sinks(arrows)[0]
	got, at := arrow.Run(x, arrows, from)
	if at != sink {
		t.Fatalf("Run(%v, %d) stopped at %d", arrows, from, at)
	}
	if !arrow.Quiet(x, got) || !slices.Equal(arrow.Sinks(got), []int{from}) {
		t.Fatalf("Run(%v, %d): %v, not quiet, or with other sinks", arrows, from, got)
	}
	path := slices.Collect(x.Path(from, sink))
	for v := range arrows {
		want := from != sink && slices.Contains(path, v)
		if other := got[v] != arrows[v]; other != want {
			t.Fatalf("Run(%v, %d): %v: the arrow of %d is another one: %v", arrows, from, got, v, other)
		}
	}
	return got
}

// P12.2: from each node to each one, of every tree of up to five nodes.
func TestEveryRun(t *testing.T) {
	everyTree(5, func(parents []int) {
		x, m := made(t, parents)
		for home := range m.size() {
			for from := range m.size() {
				checkPromise(t, x, arrow.Toward(x, home), from)
			}
		}
	})
}

// P12.2: the same over trees of up to 32 nodes.
func TestRunsOfGreatTrees(t *testing.T) {
	someTrees(t, 11, func(_ *rand.Rand, x *tree.Tree, m model) {
		for home := range m.size() {
			arrows := arrow.Toward(x, home)
			for from := range m.size() {
				checkPromise(t, x, arrows, from)
				checkRun(t, x, m, arrows, from)
			}
		}
	})
}

// P12.2: one find behind another, each over the arrows that the last one left.
func TestRunBehindRun(t *testing.T) {
	someTrees(t, 12, func(r *rand.Rand, x *tree.Tree, m model) {
		arrows := arrow.Toward(x, x.Root())
		for range 100 {
			from := r.Intn(m.size())
			checkRun(t, x, m, arrows, from)
			arrows = checkPromise(t, x, arrows, from)
		}
	})
}

// P12.1: a find that the sink sends stops at once, and every arrow stays.
func TestRunOfTheSink(t *testing.T) {
	someTrees(t, 13, func(_ *rand.Rand, x *tree.Tree, m model) {
		for home := range m.size() {
			arrows := arrow.Toward(x, home)
			if got, at := arrow.Run(x, arrows, home); at != home || !slices.Equal(got, arrows) {
				t.Fatalf("Run(%v, %d): %v, %d", arrows, home, got, at)
			}
		}
	})
}

// P12.1: each node by which a find comes does what Step says, and who sends it what Step says of a find from itself.
func TestRunGoesByStep(t *testing.T) {
	someTrees(t, 14, func(r *rand.Rand, x *tree.Tree, m model) {
		arrows := arrow.Toward(x, r.Intn(m.size()))
		from := r.Intn(m.size())
		want := slices.Clone(arrows)
		last, at := from, from
		for range m.size() {
			var next int
			want[at], next = arrow.Step(at, want[at], last)
			if next == -1 {
				break
			}
			last, at = at, next
		}
		if got, stopped := arrow.Run(x, arrows, from); stopped != at || !slices.Equal(got, want) {
			t.Fatalf("Run(%v, %d): %v, %d, not %v, %d", arrows, from, got, stopped, want, at)
		}
	})
}

// P12.1: no find runs from what is no node, nor over arrows that aren't quiet, whoever sends it.
func TestNoRun(t *testing.T) {
	someTrees(t, 15, func(r *rand.Rand, x *tree.Tree, m model) {
		n := m.size()
		good := arrow.Toward(x, r.Intn(n))
		for _, s := range strangers(n) {
			checkRun(t, x, m, good, s)
			if got, at := arrow.Run(x, good, s); len(got) != 0 || at != -1 {
				t.Fatalf("Run(%v, %d): %v, %d", good, s, got, at)
			}
		}
		all := make([]int, n)
		for v := range all {
			all[v] = v // each node a sink: quiet just where there is one
		}
		for _, wrong := range [][]int{nil, {}, good[:n-1], append(slices.Clone(good), 0), append(slices.Clone(good), n), all, slices.Repeat([]int{-1}, n)} {
			for from := -1; from <= n; from++ {
				checkRun(t, x, m, wrong, from)
				got, at := arrow.Run(x, wrong, from)
				if m.sink(wrong) < 0 && (len(got) != 0 || at != -1) {
					t.Fatalf("Run(%v, %d): %v, %d", wrong, from, got, at)
				}
			}
		}
	})
}
