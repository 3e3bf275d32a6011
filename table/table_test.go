package table_test

import (
	"math/rand"
	"testing"

	"fletch/table"
)

// P3.1, P3.2: the chapter's examples.
func TestExamples(t *testing.T) {
	x := table.New[string]()
	if !x.Put(5, "a") || !x.Put(2, "b") {
		t.Error("Put under new numbers: false")
	}
	if x.Put(5, "c") {
		t.Error("Put in the place of another: true")
	}
	checkOver(t, "All", x.All(), []entry[string]{{2, "b"}, {5, "c"}})
	checkOver(t, "From(3)", x.From(3), []entry[string]{{5, "c"}})
	checkOver(t, "Back", x.Back(), []entry[string]{{5, "c"}, {2, "b"}})
	if k, ok := x.Nth(1); k != 5 || !ok {
		t.Errorf("Nth(1): %d, %v", k, ok)
	}
	if k, ok := x.Nth(2); k != 0 || ok {
		t.Errorf("Nth(2): %d, %v", k, ok)
	}
	if !x.Delete(2) || x.Delete(2) {
		t.Error("Delete(2), twice: not true, then false")
	}
	if n := x.Len(); n != 1 {
		t.Errorf("Len: %d", n)
	}
}

// P3.1, P3.2: a new table has nothing in it, and what isn't there can't be taken away.
func TestEmptyTable(t *testing.T) {
	x := table.New[int]()
	checkTable(t, x, model{})
	for _, k := range edges() {
		drop(t, x, model{}, k)
	}
	checkTable(t, x, model{})
}

// P3.1, P3.2: the last entry may go and come again.
func TestEmptiedTable(t *testing.T) {
	x, m := table.New[int](), model{}
	for range 3 {
		put(t, x, m, 7, 70)
		checkTable(t, x, m)
		drop(t, x, m, 7)
		checkTable(t, x, m)
		drop(t, x, m, 7)
		checkTable(t, x, m)
	}
}

// P3.1, P3.2: every whole number is one, the least and the greatest too.
func TestEveryNumber(t *testing.T) {
	x, m := table.New[int](), model{}
	for i, k := range edges() {
		put(t, x, m, k, i)
		checkTable(t, x, m)
	}
	for i, k := range edges() {
		put(t, x, m, k, -i)
	}
	checkTable(t, x, m)
	for _, k := range edges() {
		drop(t, x, m, k)
		checkTable(t, x, m)
	}
}

// P3.1: a zero value that was put is there, as any other.
func TestZeroValueIsThere(t *testing.T) {
	x, m := table.New[int](), model{}
	put(t, x, m, 3, 0)
	put(t, x, m, 0, 0)
	checkTable(t, x, m)
	put(t, x, m, 3, 9)
	put(t, x, m, 3, 0)
	checkTable(t, x, m)
	drop(t, x, m, 3)
	checkTable(t, x, m)
}

// P3.1, P3.2: what stands under a number is the last that was put there; the others stay as they are.
func TestPutInPlace(t *testing.T) {
	x, m := filled(rand.New(rand.NewSource(1)), -10, 3, 20)
	for k := range m {
		put(t, x, m, k, 1000+k)
		checkTable(t, x, m)
	}
}

// P3.1, P3.2: of every few numbers, put in every order, each is taken away.
func TestEveryOrder(t *testing.T) {
	const n = 5
	var order func(ks []int, rest []int)
	order = func(ks, rest []int) {
		if len(rest) == 0 {
			checkOrder(t, ks)
			return
		}
		for i, k := range rest {
			others := append(append([]int{}, rest[:i]...), rest[i+1:]...)
			order(append(append([]int{}, ks...), k), others)
		}
	}
	order(nil, []int{0, 2, 4, 6, 8}[:n])
}

func checkOrder(t *testing.T, ks []int) {
	t.Helper()
	for _, gone := range ks {
		x, m := table.New[int](), model{}
		for i, k := range ks {
			put(t, x, m, k, i)
		}
		drop(t, x, m, gone)
		checkTable(t, x, m)
		put(t, x, m, gone, 99)
		checkTable(t, x, m)
	}
}

// P3.1, P3.2: any calls in any order, over few numbers and over many.
func TestAnyCalls(t *testing.T) {
	r := rand.New(rand.NewSource(2))
	for range 60 {
		x, m := table.New[int](), model{}
		span := 1 + r.Intn(1<<r.Intn(9))
		puts := 1 + r.Intn(4)
		for range 300 {
			k := r.Intn(span) - span/2
			if r.Intn(5) < puts {
				put(t, x, m, k, r.Int())
			} else {
				drop(t, x, m, k)
			}
			checkGet(t, x, m, k)
			if x.Len() != len(m) {
				t.Fatalf("Len: %d, not %d", x.Len(), len(m))
			}
			if r.Intn(20) == 0 {
				checkTable(t, x, m)
			}
		}
		checkTable(t, x, m)
	}
}

// P3.1, P1: many numbers, rising, falling and mixed, come and go in a moment.
func TestManyNumbers(t *testing.T) {
	const n = 100000
	for what, key := range map[string]func(i int) int{
		"rising":  func(i int) int { return i },
		"falling": func(i int) int { return n - 1 - i },
		"mixed":   func(i int) int { return i * 7919 % n }, // 7919 is prime, so no number comes twice
	} {
		x := table.New[int]()
		for i := range n {
			if !x.Put(key(i), i) {
				t.Fatalf("%s: Put(%d): false", what, key(i))
			}
		}
		for i := range n {
			if k, ok := x.Nth(i); k != i || !ok {
				t.Fatalf("%s: Nth(%d): %d, %v", what, i, k, ok)
			}
			if v, ok := x.Get(key(i)); v != i || !ok {
				t.Fatalf("%s: Get(%d): %d, %v", what, key(i), v, ok)
			}
		}
		for i := range n {
			if !x.Delete(key(i)) || x.Len() != n-1-i {
				t.Fatalf("%s: Delete(%d) leaves %d", what, key(i), x.Len())
			}
		}
	}
}

// P3.1: the values may be of any type, and come back as they were.
func TestAnyType(t *testing.T) {
	type pair struct {
		name string
		at   [2]int
	}
	checkType(t, pair{"a", [2]int{1, 2}}, pair{"b", [2]int{3, 4}})
	checkType(t, 1.5, -0.25)
	checkType(t, true, false)
	checkType(t, struct{}{}, struct{}{})
	checkType[any](t, nil, "text")
	checkType(t, new(int), nil)
	checkType(t, 'x', 'y')
}

func checkType[V comparable](t *testing.T, a, b V) {
	t.Helper()
	var none V
	x := table.New[V]()
	x.Put(1, a)
	x.Put(-1, b)
	if v, ok := x.Get(1); v != a || !ok {
		t.Errorf("Get(1): %v, %v", v, ok)
	}
	if v, ok := x.Get(0); v != none || ok {
		t.Errorf("Get(0): %v, %v", v, ok)
	}
	checkOver(t, "All", x.All(), []entry[V]{{-1, b}, {1, a}})
	checkOver(t, "From", x.From(0), []entry[V]{{1, a}})
	checkOver(t, "Back", x.Back(), []entry[V]{{1, a}, {-1, b}})
	if !x.Delete(1) {
		t.Error("Delete(1): false")
	}
	if v, ok := x.Get(1); v != none || ok {
		t.Errorf("Get(1) behind Delete: %v, %v", v, ok)
	}
}
