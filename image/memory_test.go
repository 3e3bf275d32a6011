package image_test

import (
	"bytes"
	"math/rand"
	"reflect"
	"slices"
	"testing"

	"fletch/api"
	"fletch/image"
)

const marked = 0xee

// spare answers the list with spare room behind it that holds marks.
func spare[T any](xs []T, mark T) []T {
	room := slices.Repeat([]T{mark}, len(xs)+5)
	return room[:copy(room, xs)]
}

// roomy answers the state in memory of its own, with spare room behind each of its lists.
func roomy(s api.State) api.State {
	s = apart(s)
	for i, o := range s.Objs {
		s.Objs[i].Cells = spare(o.Cells, api.Cell{Num: marked, State: marked, Node: marked, Next: marked})
	}
	for i, e := range s.Edges {
		s.Edges[i].Out = spare(e.Out, api.Msg{Kind: marked, Obj: marked, Node: marked, Num: marked, Where: marked})
	}
	s.Objs = spare(s.Objs, api.Own{Arrow: marked, Made: marked})
	s.Edges = spare(s.Edges, api.Edge{Peer: marked, Base: marked, Seen: marked})
	s.Asks = spare(s.Asks, api.Ask{Obj: marked, Num: marked})
	s.Got = spare(s.Got, api.Found{Obj: marked, Num: marked, Where: marked})
	return s
}

// lists answers the memory of each list of a state, spare room included, as the numbers that stand in it; lists in a list's entries
// are lists by themselves.
func lists(s api.State) [][]reflect.Value {
	var out [][]reflect.Value
	var gather func(v reflect.Value) []reflect.Value
	gather = func(v reflect.Value) []reflect.Value {
		var own []reflect.Value
		switch v.Kind() {
		case reflect.Int:
			own = append(own, v)
		case reflect.Struct:
			for i := range v.NumField() {
				own = append(own, gather(v.Field(i))...)
			}
		case reflect.Slice:
			var in []reflect.Value
			for i := range v.Cap() {
				in = append(in, gather(v.Slice(0, v.Cap()).Index(i))...)
			}
			out = append(out, in)
		}
		return own
	}
	gather(reflect.ValueOf(&s).Elem())
	return out
}

// told answers all that stands in a state's memory, spare room too.
func told(s api.State) [][]int {
	out := [][]int{words(s)}
	for _, list := range lists(s) {
		var in []int
		for _, x := range list {
			in = append(in, int(x.Int()))
		}
		out = append(out, in)
	}
	return out
}

func scribbleState(s api.State) {
	for _, list := range lists(s) {
		for _, x := range list {
			x.SetInt(x.Int() + 1)
		}
	}
}

func scribble(b []byte) {
	b = b[:cap(b)]
	for i := range b {
		b[i]++
	}
}

func checkUntouched(t *testing.T, what string, s api.State, want [][]int) {
	t.Helper()
	if !slices.EqualFunc(told(s), want, slices.Equal) {
		t.Fatalf("%s: what was handed in, or answered before, was written to: %+v", what, s)
	}
}

// someStates: states whose lists all have entries, known ones, and drawn ones.
func someStates(seed int64) []api.State {
	r := rand.New(rand.NewSource(seed))
	out := []api.State{rich(), greatestAll(rich()), stretched(rich(), "Out", 50)}
	for _, c := range known {
		out = append(out, c.s)
	}
	for range 100 {
		out = append(out, someState(r))
	}
	return out
}

// P16.3: Has and Encode change no state, spare room included, and don't read the spare room; Encode's answer is new memory.
func TestEncodeOfRoomyStates(t *testing.T) {
	for _, s := range someStates(31) {
		in := roomy(s)
		before := told(in)
		want, _ := modelEncode(s)
		if !image.Has(in) {
			t.Fatalf("Has(%+v): false", in)
		}
		first, e := image.Encode(in)
		second, _ := image.Encode(in)
		checkUntouched(t, "Encode", in, before)
		if string(first) != want || e != api.OK {
			t.Fatalf("Encode(%+v): % x, %d, not % x", in, first, e, want)
		}
		scribble(first)
		checkUntouched(t, "Encode, its answer written into", in, before)
		scribbleState(in)
		if string(second) != want {
			t.Fatalf("Encode, what was handed in and another answer written into: % x, not % x", second, want)
		}
	}
}

// P16.3: a state that has no image isn't changed either.
func TestEncodeOfStatesWithoutImage(t *testing.T) {
	full := rich()
	for i := range numbersOf(&full) {
		s := rich()
		*numbersOf(&s)[i].at = 1 << 41
		in := roomy(s)
		before := told(in)
		image.Has(in)
		image.Encode(in)
		checkUntouched(t, "Encode", in, before)
	}
}

// P16.3: Decode changes no bytes, spare room included, doesn't read behind them, and keeps none; its answer is new memory, each list.
func TestDecodeOfRoomyBytes(t *testing.T) {
	for _, s := range someStates(32) {
		b, _ := image.Encode(s)
		in := spare(b, marked)
		first, e := image.Decode(in)
		second, _ := image.Decode(in)
		if !bytes.Equal(in, b) || !bytes.Equal(in[len(b):cap(in)], bytes.Repeat([]byte{marked}, cap(in)-len(b))) {
			t.Fatalf("Decode: what was handed in is % x now, not % x", in[:cap(in)], b)
		}
		if e != api.OK || !slices.Equal(words(first), words(s)) {
			t.Fatalf("Decode(% x): %+v, %d", in, first, e)
		}
		want := told(second)
		scribble(in)
		scribbleState(first)
		checkUntouched(t, "Decode, its argument and another answer written into", second, want)
		for n := range b {
			if _, e := image.Decode(b[:n]); e != api.ErrShort {
				t.Fatalf("Decode of %d bytes with the others in the spare room: %d", n, e)
			}
		}
	}
}

// P16.3: no two lists of a state that Decode answers share memory.
func TestListsAreApart(t *testing.T) {
	for _, s := range someStates(33) {
		b, _ := image.Encode(s)
		got, _ := image.Decode(b)
		for i, list := range lists(got) {
			before := told(got)[1:]
			for _, x := range list {
				x.SetInt(x.Int() + 1)
			}
			for j, now := range told(got)[1:] {
				if j != i && !slices.Equal(now, before[j]) {
					t.Fatalf("the lists %d and %d of %+v share memory", i, j, got)
				}
			}
		}
	}
}

// P16.3: Event's answer is new memory; Read changes no bytes, keeps none, and doesn't read behind them.
func TestMemoryOfEvents(t *testing.T) {
	for _, c := range knownEvents {
		first, _ := image.Event(c.ev)
		second, _ := image.Event(c.ev)
		scribble(first)
		if string(second) != c.bytes {
			t.Errorf("two answers of Event(%+v) share memory: % x", c.ev, second)
		}
		in := spare([]byte(c.bytes), marked)
		ev, e := image.Read(in)
		if string(in) != c.bytes || !bytes.Equal(in[len(in):cap(in)], bytes.Repeat([]byte{marked}, cap(in)-len(in))) {
			t.Errorf("Read: what was handed in is % x now, not % x", in[:cap(in)], c.bytes)
		}
		scribble(in)
		if ev != c.ev || e != api.OK {
			t.Errorf("Read(% x): %+v, %d", c.bytes, ev, e)
		}
		for n := range len(c.bytes) {
			if _, e := image.Read([]byte(c.bytes)[:n]); e != api.ErrShort {
				t.Errorf("Read of %d of the bytes % x with the others in the spare room: %d", n, c.bytes, e)
			}
		}
	}
}

// P16.3, P1: an answer hangs on its arguments alone, also behind calls that gave up, and where calls run at one time, of one state too.
func TestCallsAtOneTime(t *testing.T) {
	shared := roomy(rich())
	before := told(shared)
	want, _ := modelEncode(rich())
	done := make(chan bool)
	for i := range 8 {
		go func() {
			r := rand.New(rand.NewSource(int64(i)))
			fine := true
			for range 500 {
				b, e := image.Encode(shared)
				fine = fine && string(b) == want && e == api.OK && answersAsTheModel(someState(r), someEvent(r), r)
			}
			done <- fine
		}()
	}
	for range 8 {
		if !<-done {
			t.Error("calls at one time answer otherwise")
		}
	}
	checkUntouched(t, "calls at one time", shared, before)
}

// answersAsTheModel: whether all calls of a state and of an event do, and of bytes that are none's.
func answersAsTheModel(s api.State, ev api.Event, r *rand.Rand) bool {
	b, _ := image.Encode(s)
	want, _ := modelEncode(s)
	got, e := image.Decode([]byte(want))
	fine := image.Has(s) && string(b) == want && e == api.OK && slices.Equal(words(got), words(s))
	b, _ = image.Event(ev)
	wantEvent, _ := modelEvent(ev)
	back, e := image.Read([]byte(wantEvent))
	fine = fine && string(b) == wantEvent && back == ev && e == api.OK
	other := spoilt(r, want)
	_, e = image.Decode([]byte(other))
	_, wantE := modelDecode(other)
	fine = fine && e == wantE
	other = spoilt(r, wantEvent)
	back, e = image.Read([]byte(other))
	wantBack, wantE := modelRead(other)
	return fine && back == wantBack && e == wantE
}
