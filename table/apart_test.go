package table_test

import (
	"math/rand"
	"testing"

	"fletch/table"
)

// P3.4: what is done to one table isn't seen in another, of the same type or not.
func TestTwoTables(t *testing.T) {
	r := rand.New(rand.NewSource(10))
	x, m := table.New[int](), model{}
	y, n := table.New[int](), model{}
	other := table.New[string]()
	for range 600 {
		k := r.Intn(30)
		if r.Intn(2) == 0 {
			x, m, y, n = y, n, x, m
		}
		if r.Intn(3) > 0 {
			put(t, x, m, k, r.Int())
		} else {
			drop(t, x, m, k)
		}
		for at := range 30 {
			checkGet(t, x, m, at)
			checkGet(t, y, n, at)
		}
	}
	checkTable(t, x, m)
	checkTable(t, y, n)
	if other.Len() != 0 {
		t.Errorf("a table that nothing was put into has %d", other.Len())
	}
}

// P3.4: so tables of several goroutines, one each, may be changed and gone over at one time.
func TestTablesAtOneTime(t *testing.T) {
	const n = 500
	done := make(chan []entry[int])
	for i := range 8 {
		go func() {
			x, _ := filled(rand.New(rand.NewSource(11)), i, 8, n)
			for k := range x.All() {
				x.Put(k, i)
			}
			done <- gathered(x.Back())
		}()
	}
	for range 8 {
		got := <-done
		if len(got) != n {
			t.Fatalf("%d entries, not %d", len(got), n)
		}
		i := got[0].v
		for at, e := range got {
			if want := i + 8*(n-1-at); e.k != want || e.v != i {
				t.Fatalf("%d under %d, not %d under %d", e.v, e.k, i, want)
			}
		}
	}
}

// P3.4: of a nil table nothing is there, nothing is gone over, and nothing comes to be there.
func TestNilTable(t *testing.T) {
	var x *table.Table[int]
	for range 2 {
		checkTable(t, x, model{})
		for _, k := range edges() {
			if x.Put(k, 5) {
				t.Errorf("Put(%d): true", k)
			}
			if x.Delete(k) {
				t.Errorf("Delete(%d): true", k)
			}
		}
	}
	for what, g := range goings(x, model{}, 0) {
		if g.all == nil {
			t.Fatalf("%s: none", what)
		}
		for range 2 {
			checkOver(t, what, g.all, nil)
		}
	}
	var texts *table.Table[string]
	if v, ok := texts.Get(0); v != "" || ok {
		t.Errorf("Get: %q, %v", v, ok)
	}
}
