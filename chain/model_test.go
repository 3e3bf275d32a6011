package chain_test

import (
	"math/rand"
	"slices"
	"testing"

	"fletch/api"
	"fletch/chain"
)

// The numbers are written out here as the chapters have them, so that the model leans on no name of the program's.
const (
	waits       = 1
	holds       = 2
	rests       = 3
	greatestNum = 1099511627776
	lastNode    = 31
)

func cell(num, state, node, next int) api.Cell {
	return api.Cell{Num: num, State: state, Node: node, Next: next}
}

// clause is one of the chapter's conditions, by itself: whether the cell at a place breaks it.
type clause struct {
	what   string
	broken func(cells []api.Cell, me int, sink bool, at int) bool
}

// lastOfASink answers whether a place is that of a sink's last cell.
func lastOfASink(cells []api.Cell, sink bool, at int) bool {
	return sink && len(cells)-at == 1
}

// clauses are the chapter's conditions of each cell, in its order.
func clauses() []clause {
	return []clause{
		{"the numbers rise", func(cells []api.Cell, _ int, _ bool, at int) bool {
			return at > 0 && cells[at-1].Num >= cells[at].Num
		}},
		{"a number from 0", func(cells []api.Cell, _ int, _ bool, at int) bool { return cells[at].Num < 0 }},
		{"a number to MaxNum", func(cells []api.Cell, _ int, _ bool, at int) bool { return cells[at].Num > greatestNum }},
		{"one of the three states", func(cells []api.Cell, _ int, _ bool, at int) bool {
			return !slices.Contains([]int{waits, holds, rests}, cells[at].State)
		}},
		{"all but the first one's are Waiting", func(cells []api.Cell, _ int, _ bool, at int) bool {
			return at != 0 && cells[at].State != waits
		}},
		{"0 only of one that rests", func(cells []api.Cell, _ int, _ bool, at int) bool {
			return cells[at].Num == 0 && cells[at].State != rests
		}},
		{"the last one of a sink has no successor", func(cells []api.Cell, _ int, sink bool, at int) bool {
			return lastOfASink(cells, sink, at) && (cells[at].Node != -1 || cells[at].Next != 0)
		}},
		{"every other one doesn't rest", func(cells []api.Cell, _ int, sink bool, at int) bool {
			return !lastOfASink(cells, sink, at) && cells[at].State == rests
		}},
		{"every other one's Node", func(cells []api.Cell, _ int, sink bool, at int) bool {
			return !lastOfASink(cells, sink, at) && (cells[at].Node < 0 || cells[at].Node > lastNode)
		}},
		{"every other one's Next", func(cells []api.Cell, _ int, sink bool, at int) bool {
			return !lastOfASink(cells, sink, at) && (cells[at].Next < 1 || cells[at].Next > greatestNum)
		}},
		{"a successor here is the next one", func(cells []api.Cell, me int, sink bool, at int) bool {
			here := !lastOfASink(cells, sink, at) && cells[at].Node == me
			return here && (at+1 == len(cells) || cells[at+1].Num != cells[at].Next)
		}},
	}
}

// modelGood answers as the chapter does, clause by clause.
func modelGood(cells []api.Cell, me int, sink bool) bool {
	for at := range cells {
		for _, c := range clauses() {
			if c.broken(cells, me, sink, at) {
				return false
			}
		}
	}
	return len(cells) > 0 || !sink
}

func modelAdd(cells []api.Cell, num int) []api.Cell {
	out := make([]api.Cell, len(cells)+1)
	for i, c := range cells {
		out[i] = c
	}
	out[len(cells)] = cell(num, waits, -1, 0)
	return out
}

func modelSucceed(cells []api.Cell, node, num int) ([]api.Cell, bool) {
	var out []api.Cell
	for i, c := range cells {
		if i < len(cells)-1 {
			out = append(out, c)
			continue
		}
		if c.State == rests {
			return out, true
		}
		out = append(out, cell(c.Num, c.State, node, num))
	}
	return out, false
}

func modelGrant(cells []api.Cell, num int) ([]api.Cell, bool) {
	var out []api.Cell
	done := false
	for _, c := range cells {
		if c.State == waits && c.Num == num && !done {
			c.State, done = holds, true
		}
		out = append(out, c)
	}
	return out, done
}

// released is what Release answers.
type released struct {
	cells     []api.Cell
	node, num int
	e         api.Errno
}

func modelRelease(cells []api.Cell) released {
	for i, c := range cells {
		if c.State != holds {
			continue
		}
		out := slices.Concat(cells[:i:i], cells[i+1:])
		if c.Node != -1 {
			return released{out, c.Node, c.Next, 0}
		}
		c.State = rests
		return released{slices.Insert(out, i, c), -1, 0, 0}
	}
	return released{e: 22}
}

func modelOpen(cells []api.Cell) int {
	rest := 0
	for _, c := range cells {
		if c.State < waits || c.State > holds {
			rest++
		}
	}
	return len(cells) - rest
}

func releasedOf(cells []api.Cell) released {
	out, node, num, e := chain.Release(cells)
	return released{out, node, num, e}
}

// same: an empty list and none are alike.
func (r released) same(o released) bool {
	return slices.Equal(r.cells, o.cells) && r.node == o.node && r.num == o.num && r.e == o.e
}

// checkGood answers what Good does.
func checkGood(t *testing.T, cells []api.Cell, me int, sink bool) bool {
	t.Helper()
	got := chain.Good(cells, me, sink)
	if got != modelGood(cells, me, sink) {
		t.Fatalf("Good(%v, %d, %v): %v", cells, me, sink, got)
	}
	return got
}

func checkAdd(t *testing.T, cells []api.Cell, num int) {
	t.Helper()
	if got := chain.Add(cells, num); !slices.Equal(got, modelAdd(cells, num)) {
		t.Fatalf("Add(%v, %d): %v", cells, num, got)
	}
}

func checkSucceed(t *testing.T, cells []api.Cell, node, num int) {
	t.Helper()
	got, gone := chain.Succeed(cells, node, num)
	if want, goes := modelSucceed(cells, node, num); !slices.Equal(got, want) || gone != goes {
		t.Fatalf("Succeed(%v, %d, %d): %v, %v, not %v, %v", cells, node, num, got, gone, want, goes)
	}
}

func checkGrant(t *testing.T, cells []api.Cell, num int) {
	t.Helper()
	got, ok := chain.Grant(cells, num)
	if want, done := modelGrant(cells, num); !slices.Equal(got, want) || ok != done {
		t.Fatalf("Grant(%v, %d): %v, %v, not %v, %v", cells, num, got, ok, want, done)
	}
}

func checkRelease(t *testing.T, cells []api.Cell) {
	t.Helper()
	if got, want := releasedOf(cells), modelRelease(cells); !got.same(want) {
		t.Fatalf("Release(%v): %+v, not %+v", cells, got, want)
	}
}

func checkOpen(t *testing.T, cells []api.Cell) {
	t.Helper()
	if got := chain.Open(cells); got != modelOpen(cells) {
		t.Fatalf("Open(%v): %d", cells, got)
	}
}

// checkCalls holds the answers of all calls but Good against the model's, with every number that is in the list.
func checkCalls(t *testing.T, cells []api.Cell) {
	t.Helper()
	for _, c := range append(slices.Clone(cells), api.Cell{Num: 5, Node: 7, Next: 9}, api.Cell{}, api.Cell{Num: -1, Node: -1}) {
		checkAdd(t, cells, c.Num)
		checkSucceed(t, cells, c.Node, c.Num)
		checkGrant(t, cells, c.Num)
	}
	checkRelease(t, cells)
	checkOpen(t, cells)
}

// everyCell: all cells with these numbers, states, and successors.
func everyCell(nums, states, nodes, nexts []int) []api.Cell {
	var out []api.Cell
	for _, num := range nums {
		for _, state := range states {
			for _, node := range nodes {
				for _, next := range nexts {
					out = append(out, cell(num, state, node, next))
				}
			}
		}
	}
	return out
}

// everyList goes over all lists of n of these cells.
func everyList(n int, of []api.Cell, visit func(cells []api.Cell)) {
	cells := make([]api.Cell, n)
	var fill func(at int)
	fill = func(at int) {
		if at == n {
			visit(cells)
			return
		}
		for _, c := range of {
			cells[at] = c
			fill(at + 1)
		}
	}
	fill(0)
}

// someGood draws cells that can be those of the node me, of many lengths; a sink's, if it is one.
func someGood(r *rand.Rand, me int, sink bool) []api.Cell {
	var cells []api.Cell
	num := 1 + r.Intn(5)
	for range r.Intn(7) {
		cells = append(cells, cell(num, waits, (me+1+r.Intn(lastNode))%(lastNode+1), 1+r.Intn(9)))
		num += 1 + r.Intn(4)
	}
	if sink {
		cells = append(cells, cell(num, waits, -1, 0))
	}
	for i := range max(len(cells)-1, 0) {
		if r.Intn(2) == 0 {
			cells[i].Node, cells[i].Next = me, cells[i+1].Num
		}
	}
	if len(cells) > 0 && r.Intn(2) == 0 {
		cells[0].State = holds
	}
	if sink && len(cells) == 1 && r.Intn(2) == 0 {
		cells[0].State, cells[0].Num = rests, r.Intn(3)
	}
	return cells
}

// someCells draws any cells: some that can be, with up to two fields turned.
func someCells(r *rand.Rand) []api.Cell {
	cells := someGood(r, r.Intn(3), r.Intn(2) == 0)
	for range r.Intn(3) {
		if len(cells) == 0 {
			break
		}
		c := &cells[r.Intn(len(cells))]
		switch r.Intn(4) {
		case 0:
			c.Num = r.Intn(30) - 3
		case 1:
			c.State = r.Intn(6) - 1
		case 2:
			c.Node = r.Intn(36) - 2
		case 3:
			c.Next = r.Intn(12) - 2
		}
	}
	return cells
}
