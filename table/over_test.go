package table_test

import (
	"iter"
	"math"
	"math/rand"
	"slices"
	"testing"

	"fletch/table"
)

// goings: each way to go over a table, and what it goes over.
func goings(x *table.Table[int], m model, from int) map[string]going {
	return map[string]going{
		"All":  {x.All(), m.rising(math.MinInt)},
		"From": {x.From(from), m.rising(from)},
		"Back": {x.Back(), m.falling()},
	}
}

type going struct {
	all  iter.Seq2[int, int]
	want []entry[int]
}

// P3.2, P1: one answer may be gone over again and again, each time from its beginning.
func TestAgain(t *testing.T) {
	x, m := filled(rand.New(rand.NewSource(3)), -9, 2, 30)
	for what, g := range goings(x, m, 5) {
		for range 3 {
			checkOver(t, what, g.all, g.want)
		}
	}
}

// P3.2, P1: who stops, behind any number of steps, is asked no more; the next going is a whole one.
func TestStopped(t *testing.T) {
	x, m := filled(rand.New(rand.NewSource(4)), -9, 2, 30)
	for what, g := range goings(x, m, 5) {
		for stop := 1; stop <= len(g.want); stop++ {
			var got []entry[int]
			g.all(func(k, v int) bool {
				got = append(got, entry[int]{k, v})
				return len(got) < stop
			})
			if !slices.Equal(got, g.want[:stop]) {
				t.Fatalf("%s, stopped at step %d: %v", what, stop, got)
			}
		}
		checkOver(t, what, g.all, g.want)
	}
}

// P3.2, P1: one answer is gone over within itself, whole and stopped.
func TestWithinItself(t *testing.T) {
	x, m := filled(rand.New(rand.NewSource(5)), -9, 2, 12)
	for what, g := range goings(x, m, -5) {
		var outer []entry[int]
		for k, v := range g.all {
			outer = append(outer, entry[int]{k, v})
			checkOver(t, what+" within itself", g.all, g.want)
			for range g.all {
				break
			}
		}
		if !slices.Equal(outer, g.want) {
			t.Errorf("%s around itself: %v, not %v", what, outer, g.want)
		}
	}
}

// P3.2, P1: answers of several calls don't know of one another.
func TestGoingsAtOneTime(t *testing.T) {
	x, m := filled(rand.New(rand.NewSource(6)), 0, 3, 25)
	want := m.rising(math.MinInt)
	up, stopUp := iter.Pull2(x.All())
	down, stopDown := iter.Pull2(x.Back())
	defer stopUp()
	defer stopDown()
	for i, low := range want {
		high := want[len(want)-1-i]
		if k, v, ok := up(); k != low.k || v != low.v || !ok {
			t.Errorf("All, step %d: %d, %d, %v", i, k, v, ok)
		}
		if k, v, ok := down(); k != high.k || v != high.v || !ok {
			t.Errorf("Back, step %d: %d, %d, %v", i, k, v, ok)
		}
	}
}

// P3.3: an answer goes over what was there at its call, whatever is put, put in place or taken away behind it.
func TestChangesBehindTheCall(t *testing.T) {
	r := rand.New(rand.NewSource(7))
	for _, n := range []int{0, 1, 2, 3, 7, 40} {
		x, m := filled(r, -4, 2, n)
		asked := goings(x, m, 1)
		for range 200 {
			k := r.Intn(2*n+4) - 6
			if r.Intn(2) == 0 {
				put(t, x, m, k, r.Int())
			} else {
				drop(t, x, m, k)
			}
			for what, g := range asked {
				checkOver(t, what+" behind a change", g.all, g.want)
			}
		}
		checkTable(t, x, m)
	}
}

// P3.3: nor is a change seen that is made while it is gone over, and it isn't lost either.
func TestChangesWhileGoneOver(t *testing.T) {
	for _, what := range []string{"All", "From", "Back"} {
		x, m := filled(rand.New(rand.NewSource(8)), -10, 2, 20)
		g := goings(x, m, -3)[what]
		var got []entry[int]
		for k, v := range g.all {
			got = append(got, entry[int]{k, v})
			drop(t, x, m, k)
			put(t, x, m, k+1, v)
			put(t, x, m, k-1, v)
			drop(t, x, m, k+2)
			put(t, x, m, -k, 0)
		}
		if !slices.Equal(got, g.want) {
			t.Errorf("%s: %v, not %v", what, got, g.want)
		}
		checkOver(t, what+" gone over again", g.all, g.want)
		checkTable(t, x, m)
	}
}

// P3.3: all may be taken away while it is gone over, or all put in place.
func TestAllGoWhileGoneOver(t *testing.T) {
	x, m := filled(rand.New(rand.NewSource(9)), 0, 1, 100)
	want := m.rising(math.MinInt)
	all, back := x.All(), x.Back()
	var got []entry[int]
	for k, v := range all {
		got = append(got, entry[int]{k, v})
		x.Put(99-k, -1)
	}
	for k, v := range back {
		if w := want[k]; w.v != v {
			t.Errorf("Back: %d under %d", v, k)
		}
		x.Delete(k)
		x.Delete(99 - k)
	}
	if !slices.Equal(got, want) {
		t.Errorf("All: %v", got)
	}
	checkTable(t, x, model{})
	checkOver(t, "All behind it", all, want)
}

// P3.3: an answer of the empty table stays empty.
func TestEmptyStaysEmpty(t *testing.T) {
	x := table.New[int]()
	asked := goings(x, model{}, -5)
	x.Put(1, 10)
	for what, g := range asked {
		checkOver(t, what+" of what was empty", g.all, nil)
	}
}
