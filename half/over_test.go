package half_test

import (
	"iter"
	"slices"
	"testing"

	"fletch/api"
	"fletch/half"
)

// sides: ones with no, few and all messages, and ones that can't be.
func sides() []api.Edge {
	return []api.Edge{
		{},
		{Peer: 1, Base: 5, Out: []api.Msg{}, Seen: 9},
		{Out: messages(1)},
		{Peer: 2, Base: 3, Out: messages(5), Seen: 8},
		{Peer: 31, Base: greatestNum - 4, Out: messages(4)},
		{Base: 1, Out: messages(mostOut)},
		{Peer: 32, Out: messages(3)},
		{Base: greatestNum - 2, Out: messages(3)},
		{Out: []api.Msg{message(1), {}, message(2)}},
	}
}

// P11.1, P1: one answer may be gone over again and again, each time from its beginning.
func TestAgain(t *testing.T) {
	for _, e := range sides() {
		for _, seen := range []int{0, e.Base, e.Base + 1, e.Base + len(e.Out)} {
			left := half.Left(e, seen)
			for range 3 {
				checkOver(t, "Left", left, modelLeft(e, seen))
			}
		}
	}
}

// P11.1, P1: who stops, behind any number of steps, is asked no more; the next going is a whole one.
func TestStopped(t *testing.T) {
	for _, e := range sides() {
		for _, seen := range []int{0, e.Base + 1} {
			left, want := half.Left(e, seen), modelLeft(e, seen)
			for stop := 1; stop <= len(want); stop += 1 + len(want)/40 {
				var got []row
				left(func(num int, m api.Msg) bool {
					got = append(got, row{num, m})
					return len(got) < stop
				})
				if !slices.Equal(got, want[:stop]) {
					t.Fatalf("stopped at step %d: %d steps", stop, len(got))
				}
			}
			checkOver(t, "Left behind stopped ones", left, want)
		}
	}
}

// P11.1, P1: one answer is gone over within itself, whole and stopped.
func TestWithinItself(t *testing.T) {
	e := api.Edge{Base: 2, Out: messages(7)}
	left, want := half.Left(e, 4), modelLeft(e, 4)
	var outer []row
	for num, m := range left {
		outer = append(outer, row{num, m})
		checkOver(t, "Left within itself", left, want)
		for range left {
			break
		}
	}
	if !slices.Equal(outer, want) {
		t.Errorf("Left around itself: %+v", outer)
	}
}

// P11.1, P1: answers of several calls, and several goings over one, don't know of one another.
func TestGoingsAtOneTime(t *testing.T) {
	e := api.Edge{Base: 2, Out: messages(30)}
	want := modelLeft(e, 0)
	left := half.Left(e, 0)
	one, stopOne := iter.Pull2(left)
	defer stopOne()
	two, stopTwo := iter.Pull2(left)
	defer stopTwo()
	three, stopThree := iter.Pull2(half.Left(e, 12))
	defer stopThree()
	two()
	for i, r := range want {
		if num, m, ok := one(); (row{num, m}) != r || !ok {
			t.Errorf("the first, step %d: %d, %+v, %v", i, num, m, ok)
		}
		if num, m, ok := two(); ok != (i < 29) || ok && (row{num, m}) != want[i+1] {
			t.Errorf("the second, step %d: %d, %+v, %v", i, num, m, ok)
		}
		if num, m, ok := three(); ok != (i < 20) || ok && (row{num, m}) != want[i+10] {
			t.Errorf("the third, step %d: %d, %+v, %v", i, num, m, ok)
		}
	}
}

// P11.1, P1: an answer goes over what was there at its call, whatever is written into the list behind it.
func TestChangesBehindTheCall(t *testing.T) {
	for _, e := range sides() {
		for _, seen := range []int{-1, 0, e.Base + 2} {
			want := modelLeft(e, seen)
			e.Out = slices.Clone(e.Out)
			left := half.Left(e, seen)
			for i := range e.Out {
				e.Out[i] = api.Msg{Kind: 77}
			}
			checkOver(t, "Left behind a change", left, want)
		}
	}
}

// P11.1, P1: a side that couldn't be at the call has none left when its list is mended; one that could be keeps them.
func TestMendedBehindTheCall(t *testing.T) {
	out := messages(3)
	out[1] = api.Msg{}
	left := half.Left(api.Edge{Out: out}, 0)
	out[1] = message(1)
	checkOver(t, "Left of a side that couldn't be", left, nil)
	left = half.Left(api.Edge{Out: out}, 0)
	out[1] = api.Msg{}
	checkOver(t, "Left of a side that could be", left, []row{{1, message(0)}, {2, message(1)}, {3, message(2)}})
}

// P11.1, P1: nor is a change seen that is made while it is gone over.
func TestChangesWhileGoneOver(t *testing.T) {
	e := api.Edge{Base: 2, Out: messages(20)}
	want := modelLeft(e, 5)
	left := half.Left(e, 5)
	var got []row
	for num, m := range left {
		got = append(got, row{num, m})
		for i := range e.Out {
			e.Out[i] = message(100 + num)
		}
	}
	if !slices.Equal(got, want) {
		t.Errorf("%+v, not %+v", got, want)
	}
	checkOver(t, "Left, gone over again", left, want)
}
