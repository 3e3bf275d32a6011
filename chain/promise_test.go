package chain_test

import (
	"math/rand"
	"slices"
	"testing"

	"fletch/api"
	"fletch/chain"
)

// checkAcquires: behind Succeed with the node itself and a number above the last one's, Add of that is a sink's.
func checkAcquires(t *testing.T, cells []api.Cell, me, num int) {
	t.Helper()
	behind, gone := chain.Succeed(cells, me, num)
	got := chain.Add(behind, num)
	if !chain.Good(got, me, true) {
		t.Fatalf("Succeed with %d and %d, then Add, of %v: %v", me, num, cells, got)
	}
	if granted, ok := chain.Grant(got, num); gone && (!ok || !chain.Good(granted, me, true)) {
		t.Fatalf("Grant(%v, %d): %v, %v", got, num, granted, ok)
	}
}

// checkPromise holds cells of the node me that can be against what P13.2 says of them.
func checkPromise(t *testing.T, cells []api.Cell, me int, sink bool) {
	t.Helper()
	if sink {
		high := cells[len(cells)-1].Num
		for _, num := range []int{high + 1, high + 9, greatestNum - 1, greatestNum} {
			if num > high && num <= greatestNum {
				checkAcquires(t, cells, me, num)
			}
		}
		for _, node := range []int{0, 1, 2, 30, 31} {
			for _, num := range []int{1, high + 1, greatestNum} {
				got, _ := chain.Succeed(cells, node, num)
				if node != me && num <= greatestNum && !chain.Good(got, me, false) {
					t.Fatalf("Succeed(%v, %d, %d) at %d: %v", cells, node, num, me, got)
				}
			}
		}
	}
	got, node, num, e := chain.Release(cells)
	if e == api.OK && !chain.Good(got, me, sink) {
		t.Fatalf("Release(%v) at %d: %v, %d, %d", cells, me, got, node, num)
	}
	if len(cells) > 0 && cells[0].State == waits {
		if got, ok := chain.Grant(cells, cells[0].Num); !ok || !chain.Good(got, me, sink) {
			t.Fatalf("Grant(%v, %d) at %d: %v, %v", cells, cells[0].Num, me, got, ok)
		}
	}
}

// P13.2: of every list of up to three cells of some kinds that can be.
func TestPromiseOfEveryList(t *testing.T) {
	for n, of := range [][]api.Cell{
		nil,
		everyCell([]int{0, 1, 2, greatestNum - 1, greatestNum}, []int{1, 2, 3}, []int{-1, 0, 1, 31}, []int{0, 1, 2, greatestNum}),
		everyCell([]int{0, 1, 2, greatestNum - 1, greatestNum}, []int{1, 2, 3}, []int{-1, 0, 1, 31}, []int{0, 1, 2, greatestNum}),
		everyCell([]int{0, 1, 2, 3}, []int{1, 2, 3}, []int{-1, 0, 1}, []int{0, 2, 3}),
	} {
		good := 0
		everyList(n, of, func(cells []api.Cell) {
			for _, me := range []int{0, 1, 31} {
				for _, sink := range []bool{false, true} {
					if chain.Good(cells, me, sink) {
						checkPromise(t, cells, me, sink)
						good++
					}
				}
			}
		})
		if good < 3 {
			t.Errorf("just %d lists of %d can be", good, n)
		}
	}
}

// P13.2: of longer lists, at every node.
func TestPromiseOfSome(t *testing.T) {
	r := rand.New(rand.NewSource(21))
	for range 20000 {
		me, sink := r.Intn(32), r.Intn(2) == 0
		checkPromise(t, someGood(r, me, sink), me, sink)
	}
}

// life is a node and one object, which other nodes want too.
type life struct {
	t        *testing.T
	me, made int
	sink     bool
	cells    []api.Cell
	waiting  []int // the node's requests that don't have the object yet, in the order in which they were made
	coming   []int // those of them to which it comes from another node
	others   int   // how many requests of others were heard of
}

// acquire: a request of the node itself.
func (l *life) acquire() {
	l.made++
	gone := false
	if l.sink {
		l.cells, gone = chain.Succeed(l.cells, l.me, l.made)
	} else {
		l.coming = append(l.coming, l.made)
	}
	l.sink = true
	l.cells = chain.Add(l.cells, l.made)
	l.waiting = append(l.waiting, l.made)
	if gone {
		l.grant(l.made)
	}
}

// find: one of another node comes; nothing here, if this is no sink.
func (l *life) find() {
	if l.sink {
		l.others++
		l.cells, _ = chain.Succeed(l.cells, (l.me+1+l.others%31)%32, l.others)
		l.sink = false
	}
}

// grant: the request gets the object: it must be the first one that waits.
func (l *life) grant(num int) {
	l.t.Helper()
	cells, ok := chain.Grant(l.cells, num)
	if !ok || l.waiting[0] != num {
		l.t.Fatalf("Grant(%v, %d): %v, while %v wait", l.cells, num, ok, l.waiting)
	}
	l.cells, l.waiting = cells, l.waiting[1:]
}

// pass: the object comes from another node, if it isn't here and is wanted.
func (l *life) pass() {
	here := slices.ContainsFunc(l.cells, func(c api.Cell) bool { return c.State != waits })
	if !here && len(l.coming) > 0 {
		l.grant(l.coming[0])
		l.coming = l.coming[1:]
	}
}

// release answers whether a request held the object.
func (l *life) release() bool {
	cells, node, num, e := chain.Release(l.cells)
	if e != api.OK {
		return false
	}
	l.cells = cells
	if node == l.me {
		l.grant(num)
	}
	return true
}

// check: the cells can be, and just those wait that should.
func (l *life) check() {
	l.t.Helper()
	var waiting []int
	for _, c := range l.cells {
		if c.State == waits {
			waiting = append(waiting, c.Num)
		}
	}
	if !checkGood(l.t, l.cells, l.me, l.sink) || !slices.Equal(waiting, l.waiting) {
		l.t.Fatalf("%v at %d, a sink: %v, while %v wait", l.cells, l.me, l.sink, l.waiting)
	}
}

// P13.2: a node's life, with its own requests and those of others in any order: its cells can be all the time, and its requests get
// the object in the order in which they were made.
func TestALife(t *testing.T) {
	for seed := range int64(200) {
		r := rand.New(rand.NewSource(seed))
		l := &life{t: t, me: r.Intn(32)}
		if r.Intn(2) == 0 {
			l.sink, l.cells = true, []api.Cell{cell(0, rests, -1, 0)}
		}
		released := 0
		for range 300 {
			switch r.Intn(5) {
			case 0:
				if chain.Open(l.cells) < 8 {
					l.acquire()
				}
			case 1:
				l.find()
			case 2:
				l.pass()
			default:
				if l.release() {
					released++
				}
			}
			l.check()
		}
		if released < 10 {
			t.Errorf("just %d were released, with the seed %d", released, seed)
		}
	}
}
