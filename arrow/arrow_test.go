package arrow_test

import (
	"math"
	"math/rand"
	"slices"
	"testing"

	"fletch/arrow"
	"fletch/tree"
)

// P12.1: the chapter's first example.
func TestFirstExample(t *testing.T) {
	x, m := made(t, []int{-1, 0, 0, 1})
	arrows := arrow.Toward(x, 2)
	if !slices.Equal(arrows, []int{2, 0, 2, 1}) {
		t.Errorf("Toward 2: %v", arrows)
	}
	if way := slices.Collect(arrow.Follow(arrows, 3)); !slices.Equal(way, []int{3, 1, 0, 2}) {
		t.Errorf("Follow from 3: %v", way)
	}
	got, at := arrow.Run(x, arrows, 3)
	if !slices.Equal(got, []int{1, 3, 0, 3}) || at != 2 {
		t.Errorf("Run from 3: %v, %d", got, at)
	}
	if !checkArrows(t, x, m, arrows) || !checkArrows(t, x, m, got) {
		t.Errorf("%v or %v isn't quiet", arrows, got)
	}
}

// P12.1: the chapter's second example.
func TestSecondExample(t *testing.T) {
	if now, next := arrow.Step(4, 4, 7); now != 7 || next != -1 {
		t.Errorf("Step(4, 4, 7): %d, %d", now, next)
	}
	if now, next := arrow.Step(4, 5, 7); now != 7 || next != 5 {
		t.Errorf("Step(4, 5, 7): %d, %d", now, next)
	}
}

// P12.1: Step of any numbers, also of those that are no nodes.
func TestStep(t *testing.T) {
	numbers := []int{math.MinInt, -1 << 32, -2, -1, 0, 1, 2, 31, 32, 33, 1 << 32, math.MaxInt}
	for _, me := range numbers {
		for _, to := range numbers {
			for _, from := range numbers {
				want := to
				if me == to {
					want = -1
				}
				if now, next := arrow.Step(me, to, from); now != from || next != want {
					t.Fatalf("Step(%d, %d, %d): %d, %d", me, to, from, now, next)
				}
			}
		}
	}
}

func checkToward(t *testing.T, x *tree.Tree, m model, home int) {
	t.Helper()
	if got := arrow.Toward(x, home); !slices.Equal(got, m.toward(home)) {
		t.Fatalf("Toward(%d) over %v: %v", home, m.far, got)
	}
}

// P12.1: Toward each node of every tree of up to five nodes, and of trees of up to 32; and toward what is no node.
func TestToward(t *testing.T) {
	all := func(x *tree.Tree, m model) {
		for home := range m.size() {
			checkToward(t, x, m, home)
		}
		for _, s := range strangers(m.size()) {
			checkToward(t, x, m, s)
		}
	}
	everyTree(5, func(parents []int) { all(made(t, parents)) })
	someTrees(t, 1, func(_ *rand.Rand, x *tree.Tree, m model) { all(x, m) })
}

// P12.1, P12.2: Toward is quiet, with the sink home alone.
func TestTowardIsQuiet(t *testing.T) {
	someTrees(t, 2, func(_ *rand.Rand, x *tree.Tree, m model) {
		for home := range m.size() {
			arrows := arrow.Toward(x, home)
			if !arrow.Legal(x, arrows) || !arrow.Quiet(x, arrows) || !slices.Equal(arrow.Sinks(arrows), []int{home}) {
				t.Fatalf("Toward(%d) over %v: %v, not quiet, or with other sinks", home, m.far, arrows)
			}
		}
	})
}

// P12.1: which arrows are legal and quiet, and what the other calls make of them: every list of up to four numbers, in and around
// the nodes, over every tree of up to four nodes.
func TestEveryList(t *testing.T) {
	quiet, nodes := 0, 0
	everyTree(4, func(parents []int) {
		x, m := made(t, parents)
		for n := range 5 {
			everyList(n, -1, m.size(), func(arrows []int) {
				if checkArrows(t, x, m, arrows) {
					quiet++
				}
			})
		}
		nodes += m.size()
	})
	if quiet != nodes {
		t.Errorf("%d lists are quiet, not one for each of the %d nodes", quiet, nodes)
	}
}

// P12.1: every legal list over every tree of up to five nodes; quiet is just one for each node.
func TestEveryLegalList(t *testing.T) {
	everyTree(5, func(parents []int) {
		x, m := made(t, parents)
		quiet := 0
		everyLegal(m, func(arrows []int) {
			if !arrow.Legal(x, arrows) {
				t.Fatalf("Legal(%v) over %v: false", arrows, m.far)
			}
			if checkArrows(t, x, m, arrows) {
				quiet++
			}
		})
		if quiet != m.size() {
			t.Fatalf("%d lists over %v are quiet", quiet, m.far)
		}
	})
}

// P12.1: what keeps arrows from being legal or quiet, one thing at a time.
func TestLegalAndQuiet(t *testing.T) {
	x, m := made(t, []int{-1, 0, 0, 1})
	for _, c := range []struct {
		what         string
		arrows       []int
		legal, quiet bool
	}{
		{"all lead to 0", []int{0, 0, 0, 1}, true, true},
		{"all lead to 3", []int{1, 3, 0, 3}, true, true},
		{"all are sinks", []int{0, 1, 2, 3}, true, false},
		{"two sinks, an edge without an arrow", []int{0, 0, 2, 1}, true, false},
		{"no sink, an edge with both", []int{1, 0, 0, 1}, true, false},
		{"one sink, an edge with both, one without", []int{1, 0, 2, 1}, true, false},
		{"one sink, which another edge keeps apart", []int{2, 0, 0, 3}, true, false},
		{"an arrow to who is no neighbour", []int{3, 0, 0, 1}, false, false},
		{"an arrow to a node two steps off", []int{0, 0, 0, 0}, false, false},
		{"an arrow to a brother", []int{0, 2, 0, 1}, false, false},
		{"an arrow to -1", []int{-1, 0, 0, 1}, false, false},
		{"the last arrow to -1", []int{0, 0, 0, -1}, false, false},
		{"an arrow beyond the nodes", []int{0, 0, 0, 4}, false, false},
		{"the least number of all", []int{0, 0, math.MinInt, 1}, false, false},
		{"the greatest number of all", []int{0, 0, math.MaxInt, 1}, false, false},
		{"one arrow less", []int{0, 0, 0}, false, false},
		{"one arrow more", []int{0, 0, 0, 1, 1}, false, false},
		{"one arrow more, a sink", []int{0, 0, 0, 1, 4}, false, false},
		{"none", nil, false, false},
		{"an empty list", []int{}, false, false},
	} {
		if got := arrow.Legal(x, c.arrows); got != c.legal {
			t.Errorf("Legal: %s: %v", c.what, got)
		}
		if got := arrow.Quiet(x, c.arrows); got != c.quiet {
			t.Errorf("Quiet: %s: %v", c.what, got)
		}
		if got := checkArrows(t, x, m, c.arrows); got != c.quiet {
			t.Errorf("the model: %s: %v", c.what, got)
		}
	}
}

// P12.1: arrows over trees of up to 32 nodes with one or two turned, by any number or to a neighbour.
func TestTurnedArrows(t *testing.T) {
	legal, quiet := 0, 0
	someTrees(t, 3, func(r *rand.Rand, x *tree.Tree, m model) {
		n := m.size()
		for range 60 {
			arrows := m.toward(r.Intn(n))
			for range r.Intn(3) {
				v := r.Intn(n)
				arrows[v] = r.Intn(n+2) - 1
				if near := x.Neighbours(v); r.Intn(3) > 0 && len(near) > 0 {
					arrows[v] = near[r.Intn(len(near))]
				}
			}
			if checkArrows(t, x, m, arrows) {
				quiet++
			}
			if m.legal(arrows) {
				legal++
			}
		}
	})
	if quiet < 300 || legal < quiet+300 {
		t.Errorf("just %d were quiet, %d legal", quiet, legal)
	}
}

// P12.1: over a tree of 32 nodes each one's arrow, to each number in turn.
func TestEachArrowOfAGreatTree(t *testing.T) {
	r := rand.New(rand.NewSource(4))
	for _, parents := range shapes(r, 32) {
		x, m := made(t, parents)
		arrows := m.toward(r.Intn(32))
		for v, was := range arrows {
			for _, to := range append(r.Perm(32), strangers(32)...) {
				arrows[v] = to
				if got := arrow.Legal(x, arrows); got != m.legal(arrows) {
					t.Fatalf("Legal with %d at %d: %v", to, v, got)
				}
				if got := arrow.Quiet(x, arrows); got != (to == was) {
					t.Fatalf("Quiet with %d at %d, not %d: %v", to, v, was, got)
				}
			}
			arrows[v] = was
		}
	}
}

// P12.1: Sinks of lists of any numbers and lengths.
func TestSinks(t *testing.T) {
	r := rand.New(rand.NewSource(5))
	for _, xs := range [][]int{nil, {}, {0}, {1}, {-1}, {0, 1, 2}, {2, 1, 0}, {1, 1, 1}, {math.MinInt, math.MaxInt, 2}, {0 - 1<<32, 1 + 1<<32}} {
		checkSinks(t, xs)
	}
	for n := range 200 {
		xs := make([]int, n)
		for i := range xs {
			xs[i] = i + r.Intn(1+r.Intn(4)) - r.Intn(2)
		}
		checkSinks(t, xs)
	}
	all := make([]int, 100000)
	for i := range all {
		all[i] = i
	}
	if got := arrow.Sinks(all); !slices.Equal(got, all) {
		t.Errorf("%d sinks of %d", len(got), len(all))
	}
}

// P12.1: of a nil tree there are no arrows, none are legal or quiet, and none run.
func TestNilTree(t *testing.T) {
	for _, arrows := range [][]int{nil, {}, {0}, {-1}, {1, 1}, {2, 0, 2, 1}} {
		if arrow.Legal(nil, arrows) || arrow.Quiet(nil, arrows) {
			t.Errorf("%v are legal or quiet over no tree", arrows)
		}
		for from := -2; from < 4; from++ {
			if got, at := arrow.Run(nil, arrows, from); len(got) != 0 || at != -1 {
				t.Errorf("Run(%v, %d) over no tree: %v, %d", arrows, from, got, at)
			}
		}
	}
	for _, home := range append(strangers(0), 0, 1) {
		if got := arrow.Toward(nil, home); len(got) != 0 {
			t.Errorf("Toward(%d) over no tree: %v", home, got)
		}
	}
}
