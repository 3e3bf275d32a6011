package half_test

import (
	"math"
	"math/rand"
	"slices"
	"testing"

	"fletch/api"
	"fletch/half"
)

// P11.1: the chapter's first example, word by word.
func TestFirstExample(t *testing.T) {
	a, b := api.Msg{Kind: api.Find, Num: 1}, api.Msg{Kind: api.Tell, Obj: 1, Node: 2, Num: 3, Where: 4}
	e, f := half.Push(api.Edge{Peer: 1}, a)
	checkEdge(t, "Push of a", e, f, api.Edge{Peer: 1, Out: []api.Msg{a}}, api.OK)
	e, f = half.Push(e, b)
	both := api.Edge{Peer: 1, Out: []api.Msg{a, b}}
	checkEdge(t, "Push of b", e, f, both, api.OK)
	got, f := half.Heard(e, 1)
	checkEdge(t, "Heard 1", got, f, api.Edge{Peer: 1, Base: 1, Out: []api.Msg{b}}, api.OK)
	later := got
	for _, ack := range []int{3, 0} {
		got, f = half.Heard(e, ack)
		checkEdge(t, "Heard 3 or 0", got, f, both, api.OK)
		got, f = half.Heard(later, ack)
		checkEdge(t, "Heard 3 or 0, behind Heard 1", got, f, later, api.OK)
	}
	for _, side := range []api.Edge{e, later} {
		checkOver(t, "Left beyond 2", half.Left(side, 2), nil)
		checkOver(t, "Left beyond 1", half.Left(side, 1), []row{{2, b}})
	}
	checkOver(t, "Left beyond 0", half.Left(e, 0), []row{{1, a}, {2, b}})
	checkOver(t, "Left beyond 0, behind Heard 1", half.Left(later, 0), []row{{2, b}})
}

// P11.1: the chapter's second example: of {Seen 4} five fits alone.
func TestSecondExample(t *testing.T) {
	for _, seq := range append(numbersAround(4), 3, 4, 5, 6, 5-1<<32) {
		if got := half.Fits(api.Edge{Seen: 4}, seq); got != (seq == 5) {
			t.Errorf("Fits(%d): %v", seq, got)
		}
	}
}

// P11.1: which sides can be, at each limit of each field, alone.
func TestLimitsOfASide(t *testing.T) {
	for _, c := range []struct {
		what string
		e    api.Edge
		good bool
	}{
		{"nothing", api.Edge{}, true},
		{"the last peer", api.Edge{Peer: 31}, true},
		{"a peer too many", api.Edge{Peer: 32}, false},
		{"a peer below", api.Edge{Peer: -1}, false},
		{"the least peer of all", api.Edge{Peer: math.MinInt}, false},
		{"the greatest peer of all", api.Edge{Peer: math.MaxInt}, false},
		{"the greatest Base", api.Edge{Base: 1 << 40}, true},
		{"a Base too great", api.Edge{Base: 1<<40 + 1}, false},
		{"a Base below", api.Edge{Base: -1}, false},
		{"the least Base of all", api.Edge{Base: math.MinInt}, false},
		{"the greatest Base of all", api.Edge{Base: math.MaxInt}, false},
		{"a Base below, with a message", api.Edge{Base: -1, Out: messages(1)}, false},
		{"the greatest Base of all, with messages", api.Edge{Base: math.MaxInt, Out: messages(3)}, false},
		{"the greatest Seen", api.Edge{Seen: 1 << 40}, true},
		{"a Seen too great", api.Edge{Seen: 1<<40 + 1}, false},
		{"a Seen below", api.Edge{Seen: -1}, false},
		{"the least Seen of all", api.Edge{Seen: math.MinInt}, false},
		{"the greatest Seen of all", api.Edge{Seen: math.MaxInt}, false},
		{"all at their greatest", api.Edge{Peer: 31, Base: 1 << 40, Seen: 1 << 40}, true},
		{"an empty list", api.Edge{Out: []api.Msg{}}, true},
		{"one message", api.Edge{Out: messages(1)}, true},
		{"one message less than all", api.Edge{Out: messages(1023)}, true},
		{"all messages", api.Edge{Out: messages(1024)}, true},
		{"a message too many", api.Edge{Out: messages(1025)}, false},
		{"far too many messages", api.Edge{Out: messages(5000)}, false},
		{"the last number", api.Edge{Base: 1<<40 - 1, Out: messages(1)}, true},
		{"beyond the last number", api.Edge{Base: 1 << 40, Out: messages(1)}, false},
		{"the last number, of two", api.Edge{Base: 1<<40 - 2, Out: messages(2)}, true},
		{"beyond the last number, by the second", api.Edge{Base: 1<<40 - 1, Out: messages(2)}, false},
		{"the last number, of all", api.Edge{Base: 1<<40 - 1024, Out: messages(1024)}, true},
		{"beyond the last number, of all", api.Edge{Base: 1<<40 - 1023, Out: messages(1024)}, false},
		{"a Seen that has nothing to do with the messages", api.Edge{Base: 1<<40 - 5, Out: messages(5), Seen: 1 << 40}, true},
	} {
		if got := half.Good(c.e); got != c.good {
			t.Errorf("Good of %s: %v", c.what, got)
		}
		if got := checkAll(t, c.e); got != c.good {
			t.Errorf("the model of %s: %v", c.what, got)
		}
	}
}

// P11.1: all combinations of the fields' limits, every call.
func TestEdgesOfSides(t *testing.T) {
	good := 0
	for _, peer := range []int{math.MinInt, -1, 0, 31, 32, 1 << 32, math.MaxInt} {
		for _, base := range numbersAround(greatestNum - 3) {
			for _, many := range []int{0, 1, 2, 3, 5} {
				for _, seen := range []int{math.MinInt, -1, 0, 1, 7, greatestNum - 1, greatestNum, greatestNum + 1, math.MaxInt} {
					if checkAll(t, api.Edge{Peer: peer, Base: base, Out: messages(many), Seen: seen}) {
						good++
					}
				}
			}
		}
	}
	if good < 300 {
		t.Errorf("just %d of the sides can be", good)
	}
}

// P11.1: a side with a message that can't be can't be, wherever that stands and whatever it lacks; and every call says so.
func TestSidesWithAMessageThatCannotBe(t *testing.T) {
	for _, many := range []int{1, 2, 3, 10, mostOut} {
		for _, at := range []int{0, many / 2, many - 1} {
			for _, m := range cannot() {
				e := api.Edge{Peer: 1, Base: 5, Out: messages(many), Seen: 6}
				e.Out[at] = m
				if half.Good(e) {
					t.Fatalf("Good with %+v at %d of %d", m, at, many)
				}
				checkStateless(t, e)
			}
		}
	}
}

// checkStateless: what the calls answer of a side that can't be.
func checkStateless(t *testing.T, e api.Edge) {
	t.Helper()
	got, f := half.Push(e, message(1))
	checkEdge(t, "Push", got, f, api.Edge{}, api.ErrState)
	for _, x := range []int{e.Base, e.Base + 1, e.Base + len(e.Out), e.Seen + 1} {
		got, f = half.Heard(e, x)
		checkEdge(t, "Heard", got, f, api.Edge{}, api.ErrState)
		if half.Fits(e, x) {
			t.Fatalf("Fits(%s, %d)", brief(e), x)
		}
		checkOver(t, "Left", half.Left(e, x), nil)
	}
	got, f = half.Take(e)
	checkEdge(t, "Take", got, f, api.Edge{}, api.ErrState)
	checkOver(t, "Left", half.Left(e, math.MinInt), nil)
}

// P11.1: sides of which one field alone can't be: every call says so.
func TestSidesThatCannotBe(t *testing.T) {
	for _, e := range []api.Edge{
		{Peer: -1, Out: messages(3)},
		{Peer: 32, Out: messages(3)},
		{Base: -1, Out: messages(3)},
		{Base: -3, Out: messages(3)},
		{Base: greatestNum + 1},
		{Base: greatestNum - 2, Out: messages(3)},
		{Base: math.MaxInt, Out: messages(3)},
		{Base: math.MinInt, Out: messages(3)},
		{Seen: -1, Out: messages(3)},
		{Seen: greatestNum + 1, Out: messages(3)},
		{Seen: math.MaxInt, Out: messages(3)},
		{Out: messages(mostOut + 1)},
	} {
		checkStateless(t, e)
	}
}

// P11.1, P1: where several errors apply, the first of the chapter's is told, and beside it a side of zeros.
func TestWhichErrorIsToldFirst(t *testing.T) {
	full := api.Edge{Peer: 3, Base: 2, Out: messages(mostOut), Seen: 4}
	end := api.Edge{Peer: 3, Base: greatestNum - 2, Out: messages(2), Seen: greatestNum}
	wrong := api.Edge{Peer: 32, Base: greatestNum, Out: messages(mostOut), Seen: greatestNum}
	for _, c := range []struct {
		what string
		e    api.Edge
		m    api.Msg
		f    api.Errno
	}{
		{"a side and a message that can't be", wrong, api.Msg{}, api.ErrState},
		{"a side that can't be", wrong, message(1), api.ErrState},
		{"no room, and a message that can't be", full, api.Msg{}, api.ErrArg},
		{"no number, and a message that can't be", end, api.Msg{Kind: api.Find}, api.ErrArg},
		{"no room", full, message(1), api.ErrRoom},
		{"no number", end, message(1), api.ErrRoom},
		{"neither", api.Edge{Base: greatestNum - mostOut, Out: messages(mostOut)}, message(1), api.ErrRoom},
	} {
		got, f := half.Push(c.e, c.m)
		checkEdge(t, "Push: "+c.what, got, f, api.Edge{}, c.f)
	}
	got, f := half.Take(wrong)
	checkEdge(t, "Take of a side that can't be", got, f, api.Edge{}, api.ErrState)
	got, f = half.Take(end)
	checkEdge(t, "Take without a number", got, f, api.Edge{}, api.ErrRoom)
}

// P11.1: a message that can't be is ErrArg, whatever it lacks; the side stays pushable.
func TestPushOfMessagesThatCannotBe(t *testing.T) {
	for _, e := range []api.Edge{{}, {Peer: 2, Base: 4, Out: messages(3), Seen: 9}} {
		for _, m := range cannot() {
			if f := checkPush(t, e, m); f != api.ErrArg {
				t.Errorf("Push of %+v: %d", m, f)
			}
		}
	}
}

// P11.1: Push till there is no room, each message behind the others; word makes room for as many as it takes out.
func TestRoom(t *testing.T) {
	e := api.Edge{Peer: 7, Seen: 3}
	for i := range mostOut {
		more, f := half.Push(e, message(i))
		if f != api.OK || !slices.Equal(more.Out[:i], e.Out) || len(more.Out) != i+1 || more.Out[i] != message(i) {
			t.Fatalf("Push %d: %s, %d", i, brief(more), f)
		}
		e = more
	}
	for _, heard := range []int{0, 1, 2, 100, mostOut} {
		left, _ := half.Heard(e, heard)
		for i := range heard {
			if f := checkPush(t, left, message(i)); f != api.OK {
				t.Fatalf("Push behind word of %d: %d", heard, f)
			}
			left, _ = half.Push(left, message(i))
		}
		if got, f := half.Push(left, message(1)); f != api.ErrRoom || !alike(got, api.Edge{}) {
			t.Errorf("Push without room, behind word of %d: %s, %d", heard, brief(got), f)
		}
		checkAll(t, left)
	}
}

// P11.1: Push up to the greatest number, from fewer and from more than so many below it; word doesn't make room there.
func TestLastNumbers(t *testing.T) {
	for _, below := range []int{0, 1, 2, 5, mostOut - 1, mostOut} {
		e := api.Edge{Base: greatestNum - below}
		for i := range below {
			more, f := half.Push(e, message(i))
			if f != api.OK {
				t.Fatalf("Push %d of %d: %d", i, below, f)
			}
			e = more
		}
		checkAll(t, e)
		for _, ack := range []int{0, greatestNum - below, greatestNum - below/2, greatestNum} {
			left, f := half.Heard(e, ack)
			if f != api.OK {
				t.Fatalf("Heard(%s, %d): %d", brief(e), ack, f)
			}
			if f := checkPush(t, left, message(1)); f != api.ErrRoom {
				t.Errorf("Push beyond the last number, behind word of %d: %d", ack, f)
			}
			checkAll(t, left)
		}
	}
}

// P11.1: Heard of every word around a list: just the numbers of its messages count, and behind them less is left.
func TestHeardOfEveryWord(t *testing.T) {
	for _, base := range []int{0, 1, 7, 1 << 31, greatestNum - 20} {
		for _, many := range []int{0, 1, 2, 20} {
			e := api.Edge{Peer: 4, Base: base, Out: messages(many), Seen: 2}
			for ack := base - 5; ack < base+many+25; ack++ {
				checkHeard(t, e, ack)
				checkLeft(t, e, ack)
				got, _ := half.Heard(e, ack)
				counts := ack > base && ack <= base+many
				if counts && (got.Base != ack || len(got.Out) != base+many-ack) || !counts && !alike(got, e) {
					t.Fatalf("Heard(%s, %d): %s", brief(e), ack, brief(got))
				}
			}
		}
	}
}

// P11.1: word by word is as the last word alone, and word that is older behind it changes nothing.
func TestWordsOneBehindTheOther(t *testing.T) {
	r := rand.New(rand.NewSource(1))
	for range 2000 {
		begin := api.Edge{Base: r.Intn(10), Out: messages(r.Intn(30))}
		e, high := begin, 0
		for range 6 {
			ack := r.Intn(45)
			e, _ = half.Heard(e, ack)
			if ack <= begin.Base+len(begin.Out) {
				high = max(high, ack)
			}
			want, _ := half.Heard(begin, high)
			if !alike(e, want) {
				t.Fatalf("%s, not %s", brief(e), brief(want))
			}
		}
	}
}

// P11.1: Take by Take the next number fits, and that alone; all else stays.
func TestTakeByTake(t *testing.T) {
	for _, from := range []int{0, 1, 4, 255, 1<<32 - 2, greatestNum - 4} {
		e := api.Edge{Peer: 5, Base: 6, Out: messages(3), Seen: from}
		for i := range 4 {
			for seq := from - 3; seq < from+10; seq++ {
				if checkFits(t, e, seq) != (seq == from+i+1) {
					t.Fatalf("Fits(%s, %d)", brief(e), seq)
				}
			}
			next, f := half.Take(e)
			checkEdge(t, "Take", next, f, api.Edge{Peer: 5, Base: 6, Out: messages(3), Seen: from + i + 1}, api.OK)
			e = next
		}
	}
}

// P11.1: behind the greatest number none fits, and Take is ErrRoom.
func TestNothingFitsBehindTheGreatest(t *testing.T) {
	e := api.Edge{Peer: 5, Base: 6, Out: messages(3), Seen: greatestNum}
	for _, seq := range numbersAround(greatestNum) {
		if half.Fits(e, seq) {
			t.Errorf("Fits(%d)", seq)
		}
	}
	if f := checkTake(t, e); f != api.ErrRoom {
		t.Errorf("Take: %d", f)
	}
}

// P11.1: Left of a list beyond every number around it.
func TestLeftBeyondEveryNumber(t *testing.T) {
	for _, base := range []int{0, 3, greatestNum - 12} {
		for _, many := range []int{0, 1, 12} {
			e := api.Edge{Base: base, Out: messages(many)}
			for seen := base - 4; seen < base+many+4; seen++ {
				got := rowsOf(half.Left(e, seen))
				if want := min(many, max(0, base+many-seen)); len(got) != want {
					t.Fatalf("Left(%s, %d): %d of them", brief(e), seen, len(got))
				}
				for i, r := range got {
					if num := base + many - len(got) + 1 + i; r.num != num || r.m != e.Out[num-base-1] {
						t.Fatalf("Left(%s, %d), step %d: %+v", brief(e), seen, i, r)
					}
				}
			}
		}
	}
}

// P11.1: the longest lists, asked all round.
func TestLongLists(t *testing.T) {
	for _, base := range []int{0, 1, 500, greatestNum - 1025, greatestNum - 1024, greatestNum - 1023, greatestNum} {
		for _, many := range []int{1022, 1023, 1024, 1025, 1026, 2048} {
			for _, seen := range []int{0, 500, greatestNum} {
				checkAll(t, api.Edge{Peer: 31, Base: base, Out: messages(many), Seen: seen})
			}
		}
	}
}

// P11.1: a million messages are too many, and told at once.
func TestAMillionMessages(t *testing.T) {
	out := make([]api.Msg, 1<<20)
	for i := range out {
		out[i] = message(i)
	}
	for _, base := range []int{0, greatestNum, -1, math.MinInt, math.MaxInt} {
		checkStateless(t, api.Edge{Base: base, Out: out})
	}
}

// P11.1: any sides, as the model says, and calls one behind the other.
func TestAnySides(t *testing.T) {
	r := rand.New(rand.NewSource(2))
	good := 0
	for range 3000 {
		e := someEdge(r)
		if checkAll(t, e) {
			good++
		}
		for range 10 {
			e = anyCall(t, r, e)
		}
	}
	if good < 1500 || good > 2990 {
		t.Errorf("%d of the sides can be", good)
	}
}

// anyCall does any call and answers the side behind it; as it was, where there is an error.
func anyCall(t *testing.T, r *rand.Rand, e api.Edge) api.Edge {
	t.Helper()
	near := e.Base + r.Intn(len(e.Out)+3) - 1
	next, f := e, api.OK
	switch r.Intn(5) {
	case 0:
		m := message(r.Intn(1000))
		f = checkPush(t, e, m)
		next, _ = half.Push(e, m)
	case 1:
		f = checkHeard(t, e, near)
		next, _ = half.Heard(e, near)
	case 2:
		f = checkTake(t, e)
		next, _ = half.Take(e)
	case 3:
		checkLeft(t, e, near)
	case 4:
		checkFits(t, e, e.Seen+r.Intn(3))
	}
	if f != api.OK {
		return e
	}
	return next
}

// P11.1: what a call makes of a side that can be can be.
func TestWhatIsMadeCanBe(t *testing.T) {
	r := rand.New(rand.NewSource(3))
	for range 20000 {
		e := someEdge(r)
		if !half.Good(e) {
			continue
		}
		for name, f := range map[string]func() (api.Edge, api.Errno){
			"Push":  func() (api.Edge, api.Errno) { return half.Push(e, message(r.Intn(99))) },
			"Heard": func() (api.Edge, api.Errno) { return half.Heard(e, e.Base+r.Intn(9)) },
			"Take":  func() (api.Edge, api.Errno) { return half.Take(e) },
		} {
			if got, f := f(); !half.Good(got) || f != api.OK && f != api.ErrRoom {
				t.Fatalf("%s of %s: %s, %d", name, brief(e), brief(got), f)
			}
		}
	}
}
