package chain_test

import (
	"math"
	"math/rand"
	"slices"
	"testing"

	"fletch/api"
	"fletch/chain"
)

// P13.1: of no cells Good hangs on the sink alone.
func TestGoodOfNone(t *testing.T) {
	for _, me := range []int{math.MinInt, -1, 0, 5, 31, 32, math.MaxInt} {
		for _, none := range [][]api.Cell{nil, {}} {
			if chain.Good(none, me, true) || !chain.Good(none, me, false) {
				t.Errorf("Good of none at %d", me)
			}
		}
	}
}

// P13.1: what one field alone makes of lists that can be, at each of its limits: at the node 7.
func TestLimitsOfCells(t *testing.T) {
	const me, other, most = 7, 3, greatestNum
	for _, c := range []struct {
		what  string
		cells []api.Cell
		sink  bool
		good  bool
	}{
		{"one that rests, number 0", []api.Cell{cell(0, rests, -1, 0)}, true, true},
		{"one that rests, number 1", []api.Cell{cell(1, rests, -1, 0)}, true, true},
		{"one that rests, the greatest number", []api.Cell{cell(most, rests, -1, 0)}, true, true},
		{"one that rests, a number too great", []api.Cell{cell(most+1, rests, -1, 0)}, true, false},
		{"one that rests, a number below", []api.Cell{cell(-1, rests, -1, 0)}, true, false},
		{"one that rests at no sink", []api.Cell{cell(1, rests, -1, 0)}, false, false},
		{"one that rests at no sink, with a successor", []api.Cell{cell(1, rests, other, 1)}, false, false},
		{"one that rests with a successor", []api.Cell{cell(1, rests, other, 1)}, true, false},
		{"one that holds", []api.Cell{cell(1, holds, -1, 0)}, true, true},
		{"one that holds, number 0", []api.Cell{cell(0, holds, -1, 0)}, true, false},
		{"one that waits", []api.Cell{cell(1, waits, -1, 0)}, true, true},
		{"one that waits, number 0", []api.Cell{cell(0, waits, -1, 0)}, true, false},
		{"one that waits, the greatest number", []api.Cell{cell(most, waits, -1, 0)}, true, true},
		{"one that waits, a number too great", []api.Cell{cell(most+1, waits, -1, 0)}, true, false},
		{"no state", []api.Cell{cell(1, 0, -1, 0)}, true, false},
		{"a state below", []api.Cell{cell(1, -1, -1, 0)}, true, false},
		{"a state beyond", []api.Cell{cell(1, 4, -1, 0)}, true, false},
		{"the greatest state of all", []api.Cell{cell(1, math.MaxInt, -1, 0)}, true, false},
		{"a sink's last with a successor's node", []api.Cell{cell(1, holds, other, 0)}, true, false},
		{"a sink's last with a successor's number", []api.Cell{cell(1, holds, -1, 1)}, true, false},
		{"a sink's last with a successor", []api.Cell{cell(1, holds, other, 1)}, true, false},
		{"a sink's last with a number below", []api.Cell{cell(1, holds, -1, -1)}, true, false},
		{"a sink's last with a node below", []api.Cell{cell(1, holds, -2, 0)}, true, false},
		{"a sink's last with the node 0 and no number", []api.Cell{cell(1, holds, 0, 0)}, true, false},
		{"no sink's last without a successor", []api.Cell{cell(1, holds, -1, 0)}, false, false},
		{"no sink's last with a node alone", []api.Cell{cell(1, holds, other, 0)}, false, false},
		{"no sink's last with a number alone", []api.Cell{cell(1, holds, -1, 1)}, false, false},
		{"no sink's last with a successor", []api.Cell{cell(1, holds, other, 1)}, false, true},
		{"no sink's last that waits, with one", []api.Cell{cell(1, waits, other, 1)}, false, true},
		{"no sink's last, number 0", []api.Cell{cell(0, waits, other, 1)}, false, false},
		{"the first node as a successor's", []api.Cell{cell(1, holds, 0, 1)}, false, true},
		{"the last node as a successor's", []api.Cell{cell(1, holds, 31, 1)}, false, true},
		{"a node too many as a successor's", []api.Cell{cell(1, holds, 32, 1)}, false, false},
		{"a node below as a successor's", []api.Cell{cell(1, holds, -2, 1)}, false, false},
		{"the greatest number as a successor's", []api.Cell{cell(1, holds, other, most)}, false, true},
		{"a number too great as a successor's", []api.Cell{cell(1, holds, other, most+1)}, false, false},
		{"a number below as a successor's", []api.Cell{cell(1, holds, other, -1)}, false, false},
		{"a successor here that isn't there", []api.Cell{cell(1, holds, me, 2)}, false, false},
		{"a successor here that is itself", []api.Cell{cell(1, holds, me, 1)}, false, false},
		{"a successor here", []api.Cell{cell(1, holds, me, 2), cell(2, waits, -1, 0)}, true, true},
		{"a successor here, further on", []api.Cell{cell(1, holds, me, 3), cell(3, waits, other, 1)}, false, true},
		{"a successor here of another number", []api.Cell{cell(1, holds, me, 3), cell(2, waits, -1, 0)}, true, false},
		{"a successor here, the next but one", []api.Cell{cell(1, holds, me, 3), cell(2, waits, me, 3), cell(3, waits, -1, 0)}, true, false},
		{"a successor elsewhere of another number", []api.Cell{cell(1, holds, other, 3), cell(2, waits, -1, 0)}, true, true},
		{"a successor here of the second", []api.Cell{cell(1, waits, other, 9), cell(2, waits, me, 3), cell(3, waits, -1, 0)}, true, true},
		{"a successor here of the second, of another number", []api.Cell{cell(1, waits, other, 9), cell(2, waits, me, 4), cell(3, waits, -1, 0)}, true, false},
		{"the first of two without a successor", []api.Cell{cell(1, holds, -1, 0), cell(2, waits, -1, 0)}, true, false},
		{"the first of two rests", []api.Cell{cell(1, rests, me, 2), cell(2, waits, -1, 0)}, true, false},
		{"the first of two rests, without a successor", []api.Cell{cell(0, rests, -1, 0), cell(2, waits, -1, 0)}, true, false},
		{"the second holds", []api.Cell{cell(1, waits, me, 2), cell(2, holds, -1, 0)}, true, false},
		{"both hold", []api.Cell{cell(1, holds, me, 2), cell(2, holds, -1, 0)}, true, false},
		{"the second rests", []api.Cell{cell(1, waits, me, 2), cell(2, rests, -1, 0)}, true, false},
		{"the second has no state", []api.Cell{cell(1, waits, me, 2), cell(2, 0, -1, 0)}, true, false},
		{"numbers that don't rise", []api.Cell{cell(2, waits, other, 2), cell(2, waits, -1, 0)}, true, false},
		{"numbers that fall", []api.Cell{cell(2, waits, me, 1), cell(1, waits, -1, 0)}, true, false},
		{"numbers that fall behind others", []api.Cell{cell(1, waits, other, 2), cell(5, waits, other, 4), cell(4, waits, -1, 0)}, true, false},
		{"the last one beyond the greatest number", []api.Cell{cell(most, waits, other, 4), cell(most+1, waits, -1, 0)}, true, false},
		{"numbers far apart", []api.Cell{cell(1, waits, me, most), cell(most, waits, -1, 0)}, true, true},
	} {
		if got := chain.Good(c.cells, me, c.sink); got != c.good {
			t.Errorf("Good of %s: %v", c.what, got)
		}
		if got := modelGood(c.cells, me, c.sink); got != c.good {
			t.Errorf("the model of %s: %v", c.what, got)
		}
	}
}

// P13.1: all cells by themselves, with each field at each of its limits, at every node.
func TestEveryCell(t *testing.T) {
	numbers := []int{math.MinInt, -1 << 40, -2, -1, 0, 1, 2, 31, 32, greatestNum - 1, greatestNum, greatestNum + 1, math.MaxInt}
	good := map[bool]int{}
	everyList(1, everyCell(numbers, []int{math.MinInt, -1, 0, 1, 2, 3, 4, 1 + 1<<32, math.MaxInt}, []int{math.MinInt, -2, -1, 0, 1, 31, 32, 1 << 32, math.MaxInt}, numbers), func(cells []api.Cell) {
		for _, me := range []int{-1, 0, 1, 31, 32} {
			for _, sink := range []bool{false, true} {
				if checkGood(t, cells, me, sink) {
					good[sink]++
				}
			}
		}
	})
	// A sink's: what waits or holds has one of six numbers, what rests one of seven; at five nodes.
	// Another's: what waits or holds has one of six numbers, and a successor's of six at one of three nodes, of which at 0, 1 and 31 one is its own.
	if good[true] != 5*(6+6+7) || good[false] != 2*6*6*(3+2+2+2+3) {
		t.Errorf("%d can be a sink's, %d another's", good[true], good[false])
	}
}

// P13.1: every list of two cells, at the node 0 and at others.
func TestEveryPair(t *testing.T) {
	good := 0
	of := everyCell([]int{-1, 0, 1, 2, greatestNum, greatestNum + 1}, []int{0, 1, 2, 3, 4}, []int{-1, 0, 1}, []int{0, 1, 2, 3})
	everyList(2, of, func(cells []api.Cell) {
		for _, sink := range []bool{false, true} {
			for _, me := range []int{0, 7} {
				if checkGood(t, cells, me, sink) {
					good++
				}
			}
		}
	})
	if good < 100 {
		t.Errorf("just %d lists can be", good)
	}
}

// P13.1: every list of three and of four cells of fewer kinds.
func TestEveryShortList(t *testing.T) {
	for _, c := range []struct {
		n    int
		of   []api.Cell
		more int
	}{
		{3, everyCell([]int{0, 1, 2, 3}, []int{1, 2, 3}, []int{-1, 0, 1}, []int{0, 2, 3}), 20},
		{4, everyCell([]int{1, 2, 3, 4}, []int{1}, []int{-1, 0}, []int{0, 2, 3, 4}), 1},
	} {
		good := 0
		everyList(c.n, c.of, func(cells []api.Cell) {
			for _, sink := range []bool{false, true} {
				if checkGood(t, cells, 0, sink) {
					good++
				}
			}
		})
		if good < c.more {
			t.Errorf("just %d lists of %d can be", good, c.n)
		}
	}
}

// P13.1: lists that can be, and what is left of them with up to two fields turned.
func TestGoodOfSome(t *testing.T) {
	r := rand.New(rand.NewSource(1))
	good := 0
	for range 30000 {
		me, sink := r.Intn(32), r.Intn(2) == 0
		cells := someGood(r, me, sink)
		if !checkGood(t, cells, me, sink) {
			t.Fatalf("Good(%v, %d, %v): false", cells, me, sink)
		}
		if len(cells) > 0 && checkGood(t, cells, me, !sink) {
			t.Fatalf("Good(%v, %d, %v): true", cells, me, !sink)
		}
		checkGood(t, cells, r.Intn(32), sink)
		turned := someCells(r)
		for me := range 3 {
			if checkGood(t, turned, me, sink) {
				good++
			}
		}
	}
	if good < 5000 {
		t.Errorf("just %d of the turned lists can be", good)
	}
}

// P13.1: lists far longer than any that a node keeps; one cell that can't be, anywhere, is seen.
func TestGoodOfLongLists(t *testing.T) {
	const me, n = 4, 300
	long := make([]api.Cell, n)
	for i := range long {
		long[i] = api.Cell{Num: i + 1, State: waits, Node: i % 32, Next: i + 2}
	}
	long[n-1].Node, long[n-1].Next = -1, 0
	if !checkGood(t, long, me, true) || checkGood(t, long, me, false) {
		t.Errorf("%d cells", n)
	}
	for at := range n {
		was := long[at]
		for _, c := range []api.Cell{
			cell(was.Num, rests, was.Node, was.Next),
			cell(was.Num, holds, was.Node, was.Next),
			cell(was.Num, 0, was.Node, was.Next),
			cell(at, waits, was.Node, was.Next),
			cell(at+2, waits, was.Node, was.Next),
			cell(was.Num, waits, 32, was.Next),
			cell(was.Num, waits, me, at+3),
			cell(was.Num, waits, me+1, 0),
			cell(was.Num, waits, -1, 0),
		} {
			long[at] = c
			checkGood(t, long, me, true)
			checkGood(t, long, me, false)
		}
		long[at] = was
	}
	if !chain.Good(slices.Clone(long), me, true) {
		t.Error("the list isn't as it was")
	}
}
