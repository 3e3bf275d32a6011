package chain_test

import (
	"math"
	"math/rand"
	"slices"
	"testing"

	"fletch/api"
	"fletch/chain"
)

// P13.1: the chapter's first example, word by word.
func TestFirstExample(t *testing.T) {
	if got, gone := chain.Succeed([]api.Cell{cell(0, rests, -1, 0)}, 2, 5); len(got) != 0 || !gone {
		t.Errorf("Succeed of one that rests: %v, %v", got, gone)
	}
	led, gone := chain.Succeed([]api.Cell{cell(3, holds, -1, 0)}, 2, 5)
	if !slices.Equal(led, []api.Cell{cell(3, holds, 2, 5)}) || gone {
		t.Errorf("Succeed of one that holds: %v, %v", led, gone)
	}
	if got := releasedOf(led); !got.same(released{nil, 2, 5, api.OK}) {
		t.Errorf("Release with a successor: %+v", got)
	}
	if got := releasedOf([]api.Cell{cell(3, holds, -1, 0)}); !got.same(released{[]api.Cell{cell(3, rests, -1, 0)}, -1, 0, api.OK}) {
		t.Errorf("Release without one: %+v", got)
	}
	for _, none := range [][]api.Cell{nil, {}} {
		if got := releasedOf(none); !got.same(released{nil, 0, 0, api.ErrHeld}) {
			t.Errorf("Release of none: %+v", got)
		}
	}
}

// P13.1: the chapter's second example.
func TestSecondExample(t *testing.T) {
	two := chain.Add([]api.Cell{cell(3, holds, 0, 4)}, 4)
	if !slices.Equal(two, []api.Cell{cell(3, holds, 0, 4), cell(4, waits, -1, 0)}) {
		t.Errorf("Add: %v", two)
	}
	if !chain.Good(two, 0, true) || chain.Good(two, 0, false) {
		t.Errorf("Good of %v", two)
	}
}

// P13.1: Add puts any number behind any cells, waiting, without a successor.
func TestAdd(t *testing.T) {
	r := rand.New(rand.NewSource(11))
	for _, num := range []int{math.MinInt, -1, 0, 1, 5, greatestNum, greatestNum + 1, math.MaxInt} {
		if got := chain.Add(nil, num); !slices.Equal(got, []api.Cell{cell(num, waits, -1, 0)}) {
			t.Errorf("Add(none, %d): %v", num, got)
		}
		for range 100 {
			checkAdd(t, someCells(r), num)
		}
	}
	var cells []api.Cell
	for num := range 1000 {
		cells = chain.Add(cells, num)
	}
	if len(cells) != 1000 || cells[0].Num != 0 || cells[999] != (api.Cell{Num: 999, State: waits, Node: -1}) {
		t.Errorf("%d cells", len(cells))
	}
}

// P13.1: Succeed is about the last cell: just if it rests, it goes; else the successor is written there, whatever stood there.
func TestSucceed(t *testing.T) {
	for _, c := range []struct {
		what  string
		cells []api.Cell
		want  []api.Cell
		gone  bool
	}{
		{"none", nil, nil, false},
		{"an empty list", []api.Cell{}, nil, false},
		{"one that waits", []api.Cell{cell(1, waits, -1, 0)}, []api.Cell{cell(1, waits, 6, 8)}, false},
		{"one that holds", []api.Cell{cell(1, holds, -1, 0)}, []api.Cell{cell(1, holds, 6, 8)}, false},
		{"one that rests", []api.Cell{cell(1, rests, -1, 0)}, nil, true},
		{"one that rests with a successor", []api.Cell{cell(1, rests, 2, 3)}, nil, true},
		{"one without a state", []api.Cell{cell(1, 0, -1, 0)}, []api.Cell{cell(1, 0, 6, 8)}, false},
		{"one of another state", []api.Cell{cell(1, 4, -1, 0)}, []api.Cell{cell(1, 4, 6, 8)}, false},
		{"one that has a successor", []api.Cell{cell(1, holds, 2, 3)}, []api.Cell{cell(1, holds, 6, 8)}, false},
		{"two", []api.Cell{cell(1, holds, 2, 3), cell(4, waits, -1, 0)}, []api.Cell{cell(1, holds, 2, 3), cell(4, waits, 6, 8)}, false},
		{"two, the first rests", []api.Cell{cell(1, rests, -1, 0), cell(4, waits, -1, 0)}, []api.Cell{cell(1, rests, -1, 0), cell(4, waits, 6, 8)}, false},
		{"two, the last rests", []api.Cell{cell(1, waits, -1, 0), cell(4, rests, -1, 0)}, []api.Cell{cell(1, waits, -1, 0)}, true},
		{"two that rest", []api.Cell{cell(1, rests, -1, 0), cell(4, rests, -1, 0)}, []api.Cell{cell(1, rests, -1, 0)}, true},
	} {
		if got, gone := chain.Succeed(c.cells, 6, 8); !slices.Equal(got, c.want) || gone != c.gone {
			t.Errorf("Succeed of %s: %v, %v", c.what, got, gone)
		}
	}
}

// P13.1: Succeed takes any successor as it is.
func TestSucceedByAny(t *testing.T) {
	numbers := []int{math.MinInt, -2, -1, 0, 1, 31, 32, greatestNum, greatestNum + 1, math.MaxInt}
	for _, node := range numbers {
		for _, num := range numbers {
			got, gone := chain.Succeed([]api.Cell{cell(4, waits, 2, 3)}, node, num)
			if !slices.Equal(got, []api.Cell{cell(4, waits, node, num)}) || gone {
				t.Fatalf("Succeed by %d of %d: %v, %v", num, node, got, gone)
			}
			if got, gone := chain.Succeed([]api.Cell{cell(4, rests, 2, 3)}, node, num); len(got) != 0 || !gone {
				t.Fatalf("Succeed of one that rests by %d of %d: %v, %v", num, node, got, gone)
			}
		}
	}
}

// P13.1: Grant is to the first cell with the number that waits; the others stay, and so do all, if there is none.
func TestGrant(t *testing.T) {
	for _, c := range []struct {
		what  string
		cells []api.Cell
		at    int
	}{
		{"none", nil, -1},
		{"an empty list", []api.Cell{}, -1},
		{"the one", []api.Cell{cell(5, waits, -1, 0)}, 0},
		{"the one with a successor", []api.Cell{cell(5, waits, 5, 9)}, 0},
		{"another number", []api.Cell{cell(4, waits, -1, 0)}, -1},
		{"another number, with that successor", []api.Cell{cell(4, waits, 5, 5)}, -1},
		{"one that holds", []api.Cell{cell(5, holds, -1, 0)}, -1},
		{"one that rests", []api.Cell{cell(5, rests, -1, 0)}, -1},
		{"one without a state", []api.Cell{cell(5, 0, -1, 0)}, -1},
		{"one of another state", []api.Cell{cell(5, 4, -1, 0)}, -1},
		{"the first", []api.Cell{cell(5, waits, 1, 6), cell(6, waits, -1, 0)}, 0},
		{"the last", []api.Cell{cell(4, waits, 1, 5), cell(5, waits, -1, 0)}, 1},
		{"the one between", []api.Cell{cell(4, holds, 1, 5), cell(5, waits, 1, 6), cell(6, waits, -1, 0)}, 1},
		{"the first of two", []api.Cell{cell(5, waits, 1, 5), cell(5, waits, -1, 0)}, 0},
		{"the second of two, of which the first holds", []api.Cell{cell(5, holds, 1, 5), cell(5, waits, -1, 0)}, 1},
		{"the second of two, of which the first rests", []api.Cell{cell(5, rests, -1, 0), cell(5, waits, -1, 0)}, 1},
		{"two that hold", []api.Cell{cell(5, holds, 1, 5), cell(5, holds, -1, 0)}, -1},
	} {
		want := slices.Clone(c.cells)
		if c.at >= 0 {
			want[c.at].State = holds
		}
		if got, ok := chain.Grant(c.cells, 5); !slices.Equal(got, want) || ok != (c.at >= 0) {
			t.Errorf("Grant: %s: %v, %v", c.what, got, ok)
		}
	}
	for _, num := range []int{math.MinInt, -1, 0, greatestNum, greatestNum + 1, math.MaxInt} {
		cells := []api.Cell{cell(num, waits, -1, 0)}
		if got, ok := chain.Grant(cells, num); !ok || !slices.Equal(got, []api.Cell{cell(num, holds, -1, 0)}) {
			t.Errorf("Grant of %d: %v, %v", num, got, ok)
		}
		checkGrant(t, cells, num^1)
	}
}

// P13.1: Release is of the first cell that holds: its Node alone tells whether it has a successor.
func TestRelease(t *testing.T) {
	for _, c := range []struct {
		what  string
		cells []api.Cell
		want  released
	}{
		{"one that waits", []api.Cell{cell(1, waits, 2, 3)}, released{e: api.ErrHeld}},
		{"one that rests", []api.Cell{cell(1, rests, -1, 0)}, released{e: api.ErrHeld}},
		{"one without a state", []api.Cell{cell(1, 0, -1, 0)}, released{e: api.ErrHeld}},
		{"one of another state", []api.Cell{cell(1, 4, -1, 0)}, released{e: api.ErrHeld}},
		{"some that don't hold", []api.Cell{cell(1, rests, -1, 0), cell(2, waits, 3, 4), cell(3, waits, -1, 0)}, released{e: api.ErrHeld}},
		{"one that holds", []api.Cell{cell(7, holds, -1, 0)}, released{[]api.Cell{cell(7, rests, -1, 0)}, -1, 0, api.OK}},
		{"a number without a node", []api.Cell{cell(7, holds, -1, 9)}, released{[]api.Cell{cell(7, rests, -1, 9)}, -1, 0, api.OK}},
		{"a node without a number", []api.Cell{cell(7, holds, 0, 0)}, released{nil, 0, 0, api.OK}},
		{"a node below", []api.Cell{cell(7, holds, -2, 4)}, released{nil, -2, 4, api.OK}},
		{"the least numbers", []api.Cell{cell(7, holds, math.MinInt, math.MinInt)}, released{nil, math.MinInt, math.MinInt, api.OK}},
		{"the greatest numbers", []api.Cell{cell(7, holds, math.MaxInt, math.MaxInt)}, released{nil, math.MaxInt, math.MaxInt, api.OK}},
		{"the first of two", []api.Cell{cell(7, holds, 3, 8), cell(8, waits, -1, 0)}, released{[]api.Cell{cell(8, waits, -1, 0)}, 3, 8, api.OK}},
		{"the last of two", []api.Cell{cell(7, waits, 3, 8), cell(8, holds, 4, 5)}, released{[]api.Cell{cell(7, waits, 3, 8)}, 4, 5, api.OK}},
		{"the last of two, without a successor", []api.Cell{cell(7, waits, 3, 8), cell(8, holds, -1, 0)}, released{[]api.Cell{cell(7, waits, 3, 8), cell(8, rests, -1, 0)}, -1, 0, api.OK}},
		{"the one between", []api.Cell{cell(7, waits, 3, 8), cell(8, holds, 4, 5), cell(9, waits, -1, 0)}, released{[]api.Cell{cell(7, waits, 3, 8), cell(9, waits, -1, 0)}, 4, 5, api.OK}},
		{"the first of two that hold", []api.Cell{cell(7, holds, 3, 8), cell(8, holds, 4, 5)}, released{[]api.Cell{cell(8, holds, 4, 5)}, 3, 8, api.OK}},
		{"the first of two that hold, without a successor", []api.Cell{cell(7, holds, -1, 0), cell(8, holds, 4, 5)}, released{[]api.Cell{cell(7, rests, -1, 0), cell(8, holds, 4, 5)}, -1, 0, api.OK}},
		{"behind one that rests", []api.Cell{cell(7, rests, -1, 0), cell(8, holds, 4, 5)}, released{[]api.Cell{cell(7, rests, -1, 0)}, 4, 5, api.OK}},
	} {
		if got := releasedOf(c.cells); !got.same(c.want) {
			t.Errorf("Release: %s: %+v", c.what, got)
		}
	}
}

// P13.1: Open counts what waits and what holds, and nothing else.
func TestOpen(t *testing.T) {
	states := []int{math.MinInt, -1, 0, waits, holds, rests, 4, 1 + 1<<32, math.MaxInt}
	for _, a := range states {
		for _, b := range states {
			for _, c := range states {
				want := 0
				for _, state := range []int{a, b, c} {
					if state == waits || state == holds {
						want++
					}
				}
				if got := chain.Open([]api.Cell{{State: a}, {State: b}, {State: c}}); got != want {
					t.Fatalf("Open of the states %d, %d, %d: %d", a, b, c, got)
				}
			}
		}
	}
	if chain.Open(nil) != 0 || chain.Open([]api.Cell{}) != 0 {
		t.Error("Open of none")
	}
	if got := chain.Open(slices.Repeat([]api.Cell{cell(1, waits, 2, 3), cell(2, rests, -1, 0), cell(3, holds, -1, 0)}, 20000)); got != 40000 {
		t.Errorf("Open of 60000 cells: %d", got)
	}
}

// P13.1: every call of every list of up to three cells of some kinds.
func TestCallsOfEveryList(t *testing.T) {
	for n, of := range [][]api.Cell{
		nil,
		everyCell([]int{-1, 0, 1, 5, greatestNum + 1}, []int{-1, 0, 1, 2, 3, 4}, []int{-2, -1, 0, 5, 32}, []int{-1, 0, 1, 5}),
		everyCell([]int{0, 1, 5}, []int{0, 1, 2, 3}, []int{-1, 0, 5}, []int{0, 5}),
		everyCell([]int{1, 5}, []int{1, 2, 3}, []int{-1, 5}, []int{0, 5}),
	} {
		everyList(n, of, func(cells []api.Cell) { checkCalls(t, cells) })
	}
}

// P13.1: every call of any lists, and one behind another of what the last one made.
func TestCallsOfSome(t *testing.T) {
	r := rand.New(rand.NewSource(12))
	for range 5000 {
		cells := someCells(r)
		for range 6 {
			checkCalls(t, cells)
			switch r.Intn(4) {
			case 0:
				cells = chain.Add(cells, r.Intn(20))
			case 1:
				cells, _ = chain.Succeed(cells, r.Intn(4), r.Intn(20))
			case 2:
				if len(cells) > 0 {
					cells, _ = chain.Grant(cells, cells[r.Intn(len(cells))].Num)
				}
			case 3:
				if got, _, _, e := chain.Release(cells); e == api.OK {
					cells = got
				}
			}
		}
	}
}
