package chain_test

import (
	"math/rand"
	"slices"
	"testing"

	"fletch/api"
	"fletch/chain"
)

// marked is what the spare room of a list holds, scrawled what a test writes into lists.
var (
	marked   = api.Cell{Num: 0xee, State: 0xee, Node: 0xee, Next: 0xee}
	scrawled = api.Cell{Num: 77, State: 2, Node: 7, Next: 7}
)

// roomy answers the cells with spare room behind them that holds marks.
func roomy(cells []api.Cell) []api.Cell {
	room := slices.Repeat([]api.Cell{marked}, len(cells)+16)
	return room[:copy(room, cells)]
}

// scribble writes into a list and its spare room.
func scribble(cells []api.Cell) {
	cells = cells[:cap(cells)]
	for i := range cells {
		cells[i] = scrawled
	}
}

func checkUntouched(t *testing.T, what string, got, want []api.Cell) {
	t.Helper()
	if !slices.Equal(got, want) {
		t.Fatalf("%s: what was handed in is %v now, not %v", what, got, want)
	}
	for _, c := range got[len(got):cap(got)] {
		if c != marked {
			t.Fatalf("%s: the spare room of %v was written to", what, want)
		}
	}
}

// makers: the calls that answer cells, each with what makes a difference to it.
func makers() map[string]func([]api.Cell) []api.Cell {
	return map[string]func([]api.Cell) []api.Cell{
		"Add": func(cells []api.Cell) []api.Cell { return chain.Add(cells, 50) },
		"Succeed": func(cells []api.Cell) []api.Cell {
			out, _ := chain.Succeed(cells, 2, 50)
			return out
		},
		"Grant of the first": func(cells []api.Cell) []api.Cell {
			num := 0
			if len(cells) > 0 {
				num = cells[0].Num
			}
			out, _ := chain.Grant(cells, num)
			return out
		},
		"Grant of none": func(cells []api.Cell) []api.Cell {
			out, _ := chain.Grant(cells, -9)
			return out
		},
		"Release": func(cells []api.Cell) []api.Cell { return releasedOf(cells).cells },
	}
}

// someLists: lists that can be and ones that can't, for which the calls answer each way.
func someLists(seed int64, visit func(cells []api.Cell)) {
	r := rand.New(rand.NewSource(seed))
	for _, cells := range [][]api.Cell{
		nil,
		{cell(0, rests, -1, 0)},
		{cell(3, holds, -1, 0)},
		{cell(3, holds, 2, 5)},
		{cell(3, waits, -1, 0)},
		{cell(3, waits, 2, 5), cell(4, rests, -1, 0)},
		{cell(3, waits, 2, 5), cell(4, holds, 1, 9), cell(6, waits, -1, 0)},
		{cell(3, holds, 0, 4), cell(4, waits, 0, 6), cell(6, waits, -1, 0)},
	} {
		visit(cells)
	}
	for range 200 {
		visit(someCells(r))
	}
}

// P13.3: what is handed in isn't changed, spare room included, whatever is answered and whatever is done with that.
func TestCellsStay(t *testing.T) {
	someLists(31, func(want []api.Cell) {
		for name, call := range makers() {
			in := roomy(want)
			got := call(in)
			checkUntouched(t, name, in, want)
			scribble(got)
			checkUntouched(t, name+", its answer written into", in, want)
		}
		in := roomy(want)
		chain.Good(in, 0, true)
		chain.Good(in, 0, false)
		chain.Open(in)
		checkUntouched(t, "Good, Open", in, want)
	})
}

// P13.3: nor is it kept: what is written into it behind the call isn't seen in the answer.
func TestCellsAreNotKept(t *testing.T) {
	someLists(32, func(cells []api.Cell) {
		for name, call := range makers() {
			want := slices.Clone(call(slices.Clone(cells)))
			in := roomy(cells)
			got := call(in)
			scribble(in)
			if !slices.Equal(got, want) {
				t.Fatalf("%s of %v: %v, not %v, behind a change", name, cells, got, want)
			}
		}
	})
}

// P13.3: no two answers share memory, spare room included, nor do answers of answers.
func TestAnswersAreNewMemory(t *testing.T) {
	someLists(33, func(cells []api.Cell) {
		for name, call := range makers() {
			kept := call(cells)
			want := slices.Clone(kept)
			for next, more := range makers() {
				scribble(call(cells))
				scribble(append(call(cells), scrawled))
				scribble(more(kept))
				if !slices.Equal(kept, want) {
					t.Fatalf("%s of %v shares memory with another answer, of it or of %s", name, cells, next)
				}
			}
		}
	})
}

// P13.3: two requests put behind one list don't meet.
func TestTwoBehindOneList(t *testing.T) {
	var cells []api.Cell
	for i := range 40 {
		one, other := chain.Add(cells, i), chain.Add(cells, 100+i)
		third, fourth := chain.Add(one, 200+i), chain.Add(one, 300+i)
		if one[i].Num != i || other[i].Num != 100+i || third[i+1].Num != 200+i || fourth[i+1].Num != 300+i {
			t.Fatalf("%v, %v, %v, %v", one, other, third, fourth)
		}
		cells = one
	}
}

// P13.3: nor do they behind a list from which the last one was taken.
func TestTwoBehindAShorterList(t *testing.T) {
	for name, shorter := range map[string]func() []api.Cell{
		"Succeed": func() []api.Cell {
			out, _ := chain.Succeed([]api.Cell{cell(3, waits, 2, 5), cell(4, rests, -1, 0)}, 1, 1)
			return out
		},
		"Release": func() []api.Cell {
			return releasedOf([]api.Cell{cell(3, waits, 2, 5), cell(4, holds, 1, 1)}).cells
		},
	} {
		cells := shorter()
		one, other := chain.Add(cells, 8), chain.Add(cells, 9)
		if !slices.Equal(one, []api.Cell{cell(3, waits, 2, 5), cell(8, waits, -1, 0)}) || other[1].Num != 9 || len(cells) != 1 {
			t.Errorf("behind %s: %v, %v", name, one, other)
		}
	}
}

// P13.3: the spare room isn't read either: a cell there is none of the list's.
func TestSpareRoomIsNotRead(t *testing.T) {
	all := []api.Cell{cell(3, holds, 0, 4), cell(4, waits, -1, 0), cell(5, holds, 2, 6), cell(6, rests, -1, 0)}
	for n := range all {
		checkCalls(t, all[:n])
		for me := range 2 {
			checkGood(t, all[:n], me, true)
			checkGood(t, all[:n], me, false)
		}
	}
	if chain.Good(all[:1], 0, false) {
		t.Error("a successor in the spare room counts as the next cell")
	}
}

// P13.3, P1: calls at one time, of one list too, don't see one another.
func TestCallsAtOneTime(t *testing.T) {
	want := []api.Cell{cell(3, holds, 0, 4), cell(4, waits, 0, 6), cell(6, waits, -1, 0)}
	same := roomy(want)
	done := make(chan bool)
	for i := range 8 {
		go func() {
			r := rand.New(rand.NewSource(int64(i)))
			fine := true
			for range 2000 {
				fine = fine && answersAsTheModel(same, r) && answersAsTheModel(someCells(r), r)
			}
			done <- fine
		}()
	}
	for range 8 {
		if !<-done {
			t.Error("calls at one time answer otherwise")
		}
	}
	checkUntouched(t, "calls at one time", same, want)
}

// answersAsTheModel: whether all calls of a list do.
func answersAsTheModel(cells []api.Cell, r *rand.Rand) bool {
	node, num, sink := r.Intn(4), r.Intn(8), r.Intn(2) == 0
	led, gone := chain.Succeed(cells, node, num)
	wantLed, goes := modelSucceed(cells, node, num)
	granted, ok := chain.Grant(cells, num)
	wantGranted, done := modelGrant(cells, num)
	fine := slices.Equal(led, wantLed) && gone == goes && slices.Equal(granted, wantGranted) && ok == done
	fine = fine && slices.Equal(chain.Add(cells, num), modelAdd(cells, num)) && releasedOf(cells).same(modelRelease(cells))
	return fine && chain.Open(cells) == modelOpen(cells) && chain.Good(cells, node, sink) == modelGood(cells, node, sink)
}
