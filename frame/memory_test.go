package frame_test

import (
	"bytes"
	"slices"
	"testing"

	"fletch/frame"
)

const marked = 0xee

// roomy answers b with spare room behind it that holds marks.
func roomy(b string) []byte {
	room := bytes.Repeat([]byte{marked}, len(b)+64)
	return room[:copy(room, b)]
}

// scribble writes into bytes and their spare room.
func scribble(b []byte) {
	b = b[:cap(b)]
	for i := range b {
		b[i] = 0x55
	}
}

func checkUntouched(t *testing.T, what string, b []byte, want string) {
	t.Helper()
	if string(b) != want {
		t.Errorf("%s: what was handed in is % x now", what, b)
	}
	for _, c := range b[len(b):cap(b)] {
		if c != marked {
			t.Errorf("%s: the spare room was written to", what)
			return
		}
	}
}

// P6.3: the bytes and their spare room are as they were.
func TestBytesStayAsTheyWere(t *testing.T) {
	for _, in := range []string{"", "a", "some bytes", string(rowOf("a", "", "bc")), string(rowOf("a", "bc")) + "behind"} {
		b := roomy(in)
		encode(t, b)
		checkUntouched(t, "Encode", b, in)
		frame.End(b)
		checkUntouched(t, "End", b, in)
		frame.All(b)
		checkUntouched(t, "All", b, in)
		for _, payload := range frame.Frames(b) {
			checkUntouched(t, "Frames", b, in)
			scribble(payload)
		}
		checkUntouched(t, "Frames", b, in)
	}
}

// P6.3: what Encode answers shares no memory with the payload, nor with another answer, its spare room too.
func TestEncodeAnswersNewMemory(t *testing.T) {
	for _, in := range []string{"", "a", "some bytes"} {
		b := roomy(in)
		want := string(modelEncode([]byte(in)))
		first, second := encode(t, b), encode(t, b)
		scribble(first)
		scribble(append(second[:len(second):len(second)], "behind"...))
		checkUntouched(t, "writing into Encode's answer", b, in)
		if string(second) != want {
			t.Errorf("two answers of Encode share memory: % x", second)
		}
		scribble(b)
		if string(second) != want {
			t.Errorf("Encode's answer shares memory with the payload: % x", second)
		}
	}
}

// P6.3: each payload that All answers is the caller's, its spare room too; so is the list.
func TestAllAnswersNewMemory(t *testing.T) {
	want := []string{"one", "", "two", "three", ""}
	in := string(rowOf(want...))
	b := roomy(in)
	other := frame.All(b)
	for i := range want {
		list := frame.All(b)
		scribble(list[i])
		scribble(append(list[i], "0123456789"...))
		checkUntouched(t, "writing into All's answer", b, in)
		list[i] = []byte(want[i])
		if got := texts(list); !slices.Equal(got, want) {
			t.Errorf("payload %d shares memory with another: %q", i, got)
		}
	}
	list := frame.All(b)
	clear(list[:cap(list)])
	if got := texts(other); !slices.Equal(got, want) {
		t.Errorf("two lists of All share memory: %q", got)
	}
	scribble(b)
	if got := texts(other); !slices.Equal(got, want) {
		t.Errorf("All's answer shares memory with what was handed in: %q", got)
	}
}

// P6.3: each payload that Frames goes over is the caller's, its spare room too: no other one and no later going over sees what is written there.
func TestFramesAnswersNewMemory(t *testing.T) {
	want := []found{{0, "one"}, {11, ""}, {19, "two"}, {30, "three"}}
	in := string(rowOf("one", "", "two", "three"))
	b := roomy(in)
	all := frame.Frames(b)
	for range 3 {
		var got []found
		var kept [][]byte
		for at, payload := range all {
			got = append(got, found{at, string(payload)})
			kept = append(kept, payload)
			for _, same := range all {
				scribble(same)
			}
			if string(payload) != got[len(got)-1].payload {
				t.Errorf("at %d a going over within itself shares memory", at)
			}
			scribble(payload)
			scribble(append(payload, "0123456789"...))
		}
		if !slices.Equal(got, want) {
			t.Errorf("%v, not %v", got, want)
		}
		for i, payload := range kept {
			if string(payload) != string(bytes.Repeat([]byte{0x55}, len(want[i].payload))) {
				t.Errorf("payload %d shares memory with another: %q", i, payload)
			}
		}
	}
	checkUntouched(t, "writing into Frames' payloads", b, in)
}

// P6.3: payloads stay what they were, whatever is done to the bytes or to other payloads later.
func TestPayloadsStay(t *testing.T) {
	b := rowOf("one", "two", "three")
	var kept [][]byte
	for _, payload := range frame.Frames(b) {
		kept = append(kept, payload)
		scribble(b)
	}
	if got := texts(kept); !slices.Equal(got, []string{"one", "two", "three"}) {
		t.Errorf("%q", got)
	}
}

// P6.3, P1: nothing is kept: an answer hangs on its argument alone, not on calls ahead of it.
func TestNothingIsKept(t *testing.T) {
	one, other := rowOf("one"), rowOf("else", "where")
	first := frame.Frames(one)
	for range 3 {
		encode(t, []byte("more"))
		checkReads(t, "one", one, []found{{0, "one"}}, 11)
		checkReads(t, "other", other, []found{{0, "else"}, {12, "where"}}, 25)
		checkReads(t, "nothing", nil, nil, 0)
		for at, payload := range first {
			if at != 0 || string(payload) != "one" {
				t.Errorf("the first: %d, %q", at, payload)
			}
		}
	}
}

// P6.3, P1: calls that run at one time don't see one another.
func TestCallsAtOneTime(t *testing.T) {
	done := make(chan bool)
	for i := range 8 {
		go func() {
			payload := bytes.Repeat([]byte{byte(i)}, 1000)
			fine := true
			for range 50 {
				b, _ := frame.Encode(payload)
				b = append(b, b...)
				for at, got := range frame.Frames(b) {
					fine = fine && at%1008 == 0 && bytes.Equal(got, payload)
				}
				fine = fine && len(frame.All(b)) == 2 && frame.End(b) == 2016
			}
			done <- fine
		}()
	}
	for range 8 {
		if !<-done {
			t.Error("calls at one time answer otherwise")
		}
	}
}
