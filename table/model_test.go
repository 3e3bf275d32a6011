package table_test

import (
	"iter"
	"maps"
	"math"
	"math/rand"
	"slices"
	"testing"

	"fletch/table"
)

// entry is a number and what stands under it.
type entry[V any] struct {
	k int
	v V
}

// model keeps the entries in a map, and puts the numbers in order whenever it is asked.
type model map[int]int

func (m model) rising(from int) []entry[int] {
	var out []entry[int]
	for _, k := range slices.Sorted(maps.Keys(m)) {
		if k >= from {
			out = append(out, entry[int]{k, m[k]})
		}
	}
	return out
}

func (m model) falling() []entry[int] {
	out := m.rising(math.MinInt)
	slices.Reverse(out)
	return out
}

func gathered[V any](all iter.Seq2[int, V]) []entry[V] {
	var out []entry[V]
	for k, v := range all {
		out = append(out, entry[V]{k, v})
	}
	return out
}

func checkOver[V comparable](t *testing.T, what string, all iter.Seq2[int, V], want []entry[V]) {
	t.Helper()
	if got := gathered(all); !slices.Equal(got, want) {
		t.Fatalf("%s: %v, not %v", what, got, want)
	}
}

// checkTable asks for all that the table can tell, and for what isn't there beside it.
func checkTable(t *testing.T, x *table.Table[int], m model) {
	t.Helper()
	want := m.rising(math.MinInt)
	if n := x.Len(); n != len(want) {
		t.Fatalf("Len: %d, not %d", n, len(want))
	}
	for i, e := range want {
		if k, ok := x.Nth(i); k != e.k || !ok {
			t.Fatalf("Nth(%d): %d, %v, not %d", i, k, ok, e.k)
		}
		checkGet(t, x, m, e.k-1)
		checkGet(t, x, m, e.k)
		checkGet(t, x, m, e.k+1)
		checkOver(t, "From below", x.From(e.k-1), m.rising(e.k-1))
		checkOver(t, "From", x.From(e.k), want[i:])
		checkOver(t, "From above", x.From(e.k+1), m.rising(e.k+1))
	}
	for _, i := range []int{math.MinInt, -2, -1, len(want), len(want) + 1, math.MaxInt} {
		if k, ok := x.Nth(i); k != 0 || ok {
			t.Fatalf("Nth(%d) of %d: %d, %v", i, len(want), k, ok)
		}
	}
	for _, k := range edges() {
		checkGet(t, x, m, k)
		checkOver(t, "From an edge", x.From(k), m.rising(k))
	}
	checkOver(t, "All", x.All(), want)
	checkOver(t, "Back", x.Back(), m.falling())
}

func checkGet(t *testing.T, x *table.Table[int], m model, k int) {
	t.Helper()
	want, there := m[k]
	if v, ok := x.Get(k); v != want || ok != there {
		t.Fatalf("Get(%d): %d, %v, not %d, %v", k, v, ok, want, there)
	}
}

// put and drop do the same to the table and the model, and hold their answers against each other.
func put(t *testing.T, x *table.Table[int], m model, k, v int) {
	t.Helper()
	_, there := m[k]
	m[k] = v
	if x.Put(k, v) == there {
		t.Fatalf("Put(%d, %d): %v", k, v, !there)
	}
}

func drop(t *testing.T, x *table.Table[int], m model, k int) {
	t.Helper()
	_, there := m[k]
	delete(m, k)
	if x.Delete(k) != there {
		t.Fatalf("Delete(%d): %v", k, !there)
	}
}

// edges: the least and the greatest numbers, those around 0, those around what 32 bits hold.
func edges() []int {
	return []int{
		math.MinInt, math.MinInt + 1, math.MinInt32 - 1, math.MinInt32, -2, -1, 0, 1, 2,
		math.MaxInt32, math.MaxInt32 + 1, math.MaxUint32, math.MaxUint32 + 1, math.MaxInt - 1, math.MaxInt,
	}
}

// filled: a table and a model with n entries, whose numbers lie step apart from the first on, put in any order.
func filled(r *rand.Rand, first, step, n int) (*table.Table[int], model) {
	x, m := table.New[int](), model{}
	for _, i := range r.Perm(n) {
		k := first + i*step
		m[k] = k ^ 0x5a5a
		x.Put(k, m[k])
	}
	return x, m
}
