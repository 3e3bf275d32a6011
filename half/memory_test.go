package half_test

import (
	"math/rand"
	"slices"
	"testing"

	"fletch/api"
	"fletch/half"
)

// marked is what the spare room of a list holds, scrawled what a test writes into lists.
var (
	marked   = api.Msg{Kind: 0xee, Obj: 0xee, Node: 0xee, Num: 0xee, Where: 0xee}
	scrawled = api.Msg{Kind: 2, Obj: 5, Node: 5, Num: 5}
)

// roomy answers the side with spare room behind its list that holds marks.
func roomy(e api.Edge) api.Edge {
	room := slices.Repeat([]api.Msg{marked}, len(e.Out)+16)
	e.Out = room[:copy(room, e.Out)]
	return e
}

// scribble writes into a list and its spare room.
func scribble(out []api.Msg) {
	out = out[:cap(out)]
	for i := range out {
		out[i] = scrawled
	}
}

func checkUntouched(t *testing.T, what string, got, want api.Edge) {
	t.Helper()
	if !alike(got, want) {
		t.Errorf("%s: what was handed in is %s now, not %s", what, brief(got), brief(want))
	}
	for _, m := range got.Out[len(got.Out):cap(got.Out)] {
		if m != marked {
			t.Errorf("%s: the spare room was written to", what)
			return
		}
	}
}

// makers: the calls that answer a side, each with what makes a difference to it.
func makers() map[string]func(api.Edge) (api.Edge, api.Errno) {
	return map[string]func(api.Edge) (api.Edge, api.Errno){
		"Push":               func(e api.Edge) (api.Edge, api.Errno) { return half.Push(e, message(50)) },
		"Push of none":       func(e api.Edge) (api.Edge, api.Errno) { return half.Push(e, api.Msg{}) },
		"Heard of nothing":   func(e api.Edge) (api.Edge, api.Errno) { return half.Heard(e, 0) },
		"Heard of the first": func(e api.Edge) (api.Edge, api.Errno) { return half.Heard(e, e.Base+1) },
		"Heard of some":      func(e api.Edge) (api.Edge, api.Errno) { return half.Heard(e, e.Base+len(e.Out)-1) },
		"Heard of all":       func(e api.Edge) (api.Edge, api.Errno) { return half.Heard(e, e.Base+len(e.Out)) },
		"Heard of more":      func(e api.Edge) (api.Edge, api.Errno) { return half.Heard(e, e.Base+len(e.Out)+1) },
		"Take":               half.Take,
	}
}

// P11.3: what is handed in isn't changed, spare room included, whatever the call answers and whatever is done with that.
func TestSidesStayAsTheyWere(t *testing.T) {
	for _, e := range sides() {
		for name, make := range makers() {
			in := roomy(e)
			got, _ := make(in)
			checkUntouched(t, name, in, e)
			scribble(got.Out)
			checkUntouched(t, name+", its answer written into", in, e)
		}
		in := roomy(e)
		half.Good(in)
		half.Fits(in, in.Seen+1)
		for range half.Left(in, in.Base) {
			half.Fits(in, 1)
		}
		checkUntouched(t, "Good, Fits, Left", in, e)
	}
}

// P11.3: nor is it kept: what is written into it behind the call isn't seen in the answer.
func TestNothingIsKept(t *testing.T) {
	for _, e := range sides() {
		for name, make := range makers() {
			in := roomy(e)
			want, wantF := make(e)
			want.Out = slices.Clone(want.Out)
			got, f := make(in)
			scribble(in.Out)
			checkEdge(t, name, got, f, want, wantF)
		}
	}
}

// P11.3: two answers of one side share nothing, nor do answers of answers.
func TestAnswersAreNewMemory(t *testing.T) {
	for _, e := range sides() {
		for name, make := range makers() {
			want, wantF := make(e)
			want.Out = slices.Clone(want.Out)
			first, _ := make(e)
			second, f := make(e)
			scribble(first.Out)
			checkEdge(t, name, second, f, want, wantF)
			for next, more := range makers() {
				before := slices.Clone(second.Out)
				third, _ := more(second)
				scribble(third.Out)
				if !slices.Equal(second.Out, before) {
					t.Errorf("%s behind %s writes into its argument", next, name)
				}
			}
		}
	}
}

// P11.3: two messages pushed behind one side don't meet.
func TestTwoPushesOnOneSide(t *testing.T) {
	e := api.Edge{}
	for i := range 40 {
		one, _ := half.Push(e, message(i))
		other, _ := half.Push(e, message(100+i))
		third, _ := half.Push(one, message(200+i))
		fourth, _ := half.Push(one, message(300+i))
		if one.Out[i] != message(i) || other.Out[i] != message(100+i) || third.Out[i+1] != message(200+i) || fourth.Out[i+1] != message(300+i) {
			t.Fatalf("%+v, %+v, %+v, %+v", one.Out, other.Out, third.Out, fourth.Out)
		}
		e = one
	}
}

// P11.3: the spare room isn't read either: a message there is none of the side's.
func TestSpareRoomIsNotRead(t *testing.T) {
	out := messages(10)
	e := api.Edge{Base: 3, Out: out[:4]}
	checkAll(t, e)
	e.Out = append(messages(4), api.Msg{Kind: 9}, api.Msg{})[:4]
	checkAll(t, e)
}

// P11.3, P1: an answer hangs on the arguments alone, not on calls ahead of it.
func TestCallsKnowNothingOfOneAnother(t *testing.T) {
	r := rand.New(rand.NewSource(6))
	for range 500 {
		e, other := someEdge(r), someEdge(r)
		left := half.Left(e, e.Base+1)
		want := modelLeft(e, e.Base+1)
		checkAll(t, other)
		for range half.Left(other, 0) {
			half.Take(other)
		}
		checkOver(t, "Left behind other calls", left, want)
		checkAll(t, e)
	}
}

// P11.3, P1: calls that run at one time, of one side too, don't see one another.
func TestCallsAtOneTime(t *testing.T) {
	same := roomy(api.Edge{Peer: 3, Base: 5, Out: messages(9), Seen: 2})
	left := half.Left(same, 7)
	done := make(chan bool)
	for i := range 8 {
		go func() {
			r := rand.New(rand.NewSource(int64(i)))
			fine := true
			for range 1500 {
				fine = fine && answersOfAny(same, r) && answersOfAny(someEdge(r), r)
				fine = fine && slices.Equal(rowsOf(left), modelLeft(same, 7))
			}
			done <- fine
		}()
	}
	for range 8 {
		if !<-done {
			t.Error("calls at one time answer otherwise")
		}
	}
	checkUntouched(t, "calls at one time", same, api.Edge{Peer: 3, Base: 5, Out: messages(9), Seen: 2})
}

// answersOfAny: whether all calls of a side answer as the model does.
func answersOfAny(e api.Edge, r *rand.Rand) bool {
	x, m := e.Base+r.Intn(len(e.Out)+2), message(r.Intn(100))
	pushed, f := half.Push(e, m)
	wantPushed, wantF := modelPush(e, m)
	fine := alike(pushed, wantPushed) && f == wantF
	heard, f := half.Heard(e, x)
	wantHeard, wantF := modelHeard(e, x)
	fine = fine && alike(heard, wantHeard) && f == wantF
	taken, f := half.Take(e)
	wantTaken, wantF := modelTake(e)
	fine = fine && alike(taken, wantTaken) && f == wantF
	return fine && half.Good(e) == modelGood(e) && half.Fits(e, x) == modelFits(e, x) && slices.Equal(rowsOf(half.Left(e, x)), modelLeft(e, x))
}
