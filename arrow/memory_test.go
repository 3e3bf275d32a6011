package arrow_test

import (
	"math/rand"
	"slices"
	"testing"

	"fletch/arrow"
	"fletch/tree"
)

const marked = 0x5ee

// roomy answers xs with spare room behind it that holds marks.
func roomy(xs []int) []int {
	room := slices.Repeat([]int{marked}, len(xs)+40)
	return room[:copy(room, xs)]
}

// scribble writes into a list and its spare room.
func scribble(xs []int) {
	xs = xs[:cap(xs)]
	for i := range xs {
		xs[i] = (i*3 + xs[i] + 1) % 5
	}
}

func checkUntouched(t *testing.T, what string, got, want []int) {
	t.Helper()
	if !slices.Equal(got, want) {
		t.Fatalf("%s: what was handed in is %v now, not %v", what, got, want)
	}
	for _, x := range got[len(got):cap(got)] {
		if x != marked {
			t.Fatalf("%s: the spare room of %v was written to", what, want)
		}
	}
}

// someArrows: quiet ones over trees of many shapes, and ones that aren't quiet, or legal.
func someArrows(t *testing.T, seed int64, visit func(x *tree.Tree, arrows []int)) {
	someTrees(t, seed, func(r *rand.Rand, x *tree.Tree, m model) {
		n := m.size()
		quiet := m.toward(r.Intn(n))
		visit(x, quiet)
		turned := slices.Clone(quiet)
		turned[r.Intn(n)] = r.Intn(n)
		visit(x, turned)
		visit(x, quiet[:n-1])
		visit(x, append(slices.Clone(quiet), n))
		visit(x, slices.Repeat([]int{n}, n))
	})
}

// P12.4: what is handed in isn't changed, spare room included, whatever is answered and whatever is done with that.
func TestArrowsStay(t *testing.T) {
	someArrows(t, 31, func(x *tree.Tree, want []int) {
		for from := -1; from <= len(want); from++ {
			in := roomy(want)
			arrow.Legal(x, in)
			arrow.Quiet(x, in)
			checkUntouched(t, "Legal, Quiet", in, want)
			scribble(arrow.Sinks(in))
			checkUntouched(t, "Sinks", in, want)
			for range arrow.Follow(in, from) {
				checkUntouched(t, "Follow, on the way", in, want)
			}
			checkUntouched(t, "Follow", in, want)
			got, _ := arrow.Run(x, in, from)
			checkUntouched(t, "Run", in, want)
			scribble(got)
			checkUntouched(t, "Run, its answer written into", in, want)
		}
	})
}

// P12.4: nor is it kept: what is written into it behind the call isn't seen in the answer.
func TestArrowsAreNotKept(t *testing.T) {
	someArrows(t, 32, func(x *tree.Tree, arrows []int) {
		for from := range arrows {
			in := roomy(arrows)
			sinks := arrow.Sinks(in)
			after, at := arrow.Run(x, in, from)
			keptSinks, kept := slices.Clone(sinks), slices.Clone(after)
			scribble(in)
			if !slices.Equal(sinks, keptSinks) || !slices.Equal(after, kept) {
				t.Fatalf("Sinks or Run of %v saw a change behind the call", arrows)
			}
			if again, stopped := arrow.Run(x, arrows, from); stopped != at || !slices.Equal(again, kept) {
				t.Fatalf("Run(%v, %d) another time: %v, %d, not %v, %d", arrows, from, again, stopped, kept, at)
			}
		}
	})
}

// P12.4: no answer shares memory with another one, spare room included.
func TestAnswersAreNewMemory(t *testing.T) {
	someTrees(t, 33, func(r *rand.Rand, x *tree.Tree, m model) {
		n := m.size()
		home, from := r.Intn(n), r.Intn(n)
		arrows := arrow.Toward(x, home)
		for name, ask := range map[string]func() []int{
			"Toward": func() []int { return arrow.Toward(x, home) },
			"Sinks":  func() []int { return arrow.Sinks(arrows) },
			"Run":    func() []int { out, _ := arrow.Run(x, arrows, from); return out },
			"Run of the sink": func() []int {
				out, _ := arrow.Run(x, arrows, home)
				return out
			},
		} {
			kept := ask()
			want := slices.Clone(kept)
			for range 2 {
				got := ask()
				if !slices.Equal(got, want) {
					t.Fatalf("%s: %v, not %v as before", name, got, want)
				}
				scribble(got)
				scribble(append(got, 1, 2))
			}
			if !slices.Equal(kept, want) {
				t.Fatalf("two answers of %s share memory", name)
			}
		}
		if !slices.Equal(arrows, m.toward(home)) {
			t.Fatalf("an answer shares memory with the arrows %v", arrows)
		}
	})
}

// P12.4: an answer's spare room is its own too: what is put behind it isn't seen elsewhere.
func TestPuttingBehindAnAnswer(t *testing.T) {
	x, _ := made(t, []int{-1, 0, 0, 1})
	arrows := roomy(arrow.Toward(x, 2))
	one, _ := arrow.Run(x, arrows, 3)
	two, _ := arrow.Run(x, arrows, 3)
	longer, other := append(one, 7), append(two, 8)
	if longer[4] != 7 || other[4] != 8 {
		t.Errorf("behind the answers stand %d and %d", longer[4], other[4])
	}
	checkUntouched(t, "Run, its answer put behind", arrows, []int{2, 0, 2, 1})
}

// P12.4, P1: a tree may be asked while others are, and its arrows are those of its own nodes.
func TestTwoTrees(t *testing.T) {
	x, m := made(t, []int{-1, 0, 1, 2})
	y, n := made(t, []int{1, 2, 3, -1})
	z, o := made(t, []int{-1, 0, 0, 0})
	for home := range 4 {
		checkToward(t, z, o, home)
		checkToward(t, x, m, home)
		checkToward(t, y, n, home) // the line of x, with another root: the same arrows
		if !slices.Equal(arrow.Toward(x, home), arrow.Toward(y, home)) {
			t.Errorf("Toward(%d): %v and %v", home, arrow.Toward(x, home), arrow.Toward(y, home))
		}
		if home == 1 && arrow.Legal(z, arrow.Toward(x, home)) {
			t.Errorf("%v are legal over a star", arrow.Toward(x, home))
		}
	}
}
