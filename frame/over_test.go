package frame_test

import (
	"math/rand"
	"slices"
	"testing"

	"fletch/frame"
)

// P6.1: Frames goes over them any number of times, each time from the beginning.
func TestAgainAndAgain(t *testing.T) {
	all := frame.Frames(rowOf("a", "", "bcd"))
	want := []found{{0, "a"}, {9, ""}, {17, "bcd"}}
	for range 4 {
		var got []found
		for at, payload := range all {
			got = append(got, found{at, string(payload)})
		}
		if !slices.Equal(got, want) {
			t.Errorf("%v, not %v", got, want)
		}
	}
}

// P6.1: it is stopped early at will, at each place, and begins anew then.
func TestStoppedEarly(t *testing.T) {
	payloads := []string{"a", "", "bcd", "e", "f"}
	all := frame.Frames(rowOf(payloads...))
	for most := 1; most <= len(payloads); most++ {
		var got []string
		all(func(at int, payload []byte) bool {
			got = append(got, string(payload))
			return len(got) < most // called once more it would be seen in what was got
		})
		if !slices.Equal(got, payloads[:most]) {
			t.Errorf("stopped at %d: %q", most, got)
		}
	}
	for range all {
		break
	}
	if got := len(slices.Collect(places(all))); got != len(payloads) {
		t.Errorf("behind the stops: %d frames", got)
	}
}

// places goes over the places alone.
func places(all func(func(int, []byte) bool)) func(func(int) bool) {
	return func(yield func(int) bool) {
		for at := range all {
			if !yield(at) {
				return
			}
		}
	}
}

// P6.1: it is gone over within itself.
func TestWithinItself(t *testing.T) {
	all := frame.Frames(rowOf("a", "b", "c"))
	var got string
	for _, p := range all {
		for _, q := range all {
			got += string(p) + string(q) + " "
			if string(q) == "b" {
				break
			}
		}
	}
	if got != "aa ab ba bb ca cb " {
		t.Error(got)
	}
}

// P6.1: where there is no frame it goes over none, again and again.
func TestOverNothing(t *testing.T) {
	for _, b := range [][]byte{nil, {}, []byte("nothing that is a frame")} {
		all := frame.Frames(b)
		for range 2 {
			for at, payload := range all {
				t.Errorf("of %q: %d, %q", b, at, payload)
			}
		}
	}
}

// P6.1: what is done to the bytes behind the call isn't seen, ahead of the first going over, between two, and in the midst of one.
func TestBytesOfTheCall(t *testing.T) {
	want := []found{{0, "one"}, {11, "two"}, {22, "three"}}
	b := roomy(string(rowOf("one", "two", "three")))
	all := frame.Frames(b)
	scribble(b)
	for range 3 {
		var got []found
		for at, payload := range all {
			got = append(got, found{at, string(payload)})
			scribble(b)
		}
		if !slices.Equal(got, want) {
			t.Errorf("%v, not %v", got, want)
		}
	}
	copy(b, rowOf("else"))
	for _, payload := range all {
		if string(payload) != "one" {
			t.Errorf("behind other bytes: %q", payload)
		}
		break
	}
}

// P6.1: neither does a frame become one later: Frames of bytes that were none goes over none.
func TestBytesThatBecomeFrames(t *testing.T) {
	row := rowOf("one", "two")
	b := make([]byte, len(row))
	all := frame.Frames(b)
	half := frame.Frames(row[:12])
	copy(b, row)
	for at := range all {
		t.Errorf("a frame at %d", at)
	}
	if got := len(slices.Collect(places(half))); got != 1 {
		t.Errorf("of a part: %d frames", got)
	}
}

// P6.2: what was encoded is read first, in its order, whatever stands behind.
func TestEncodedIsReadFirst(t *testing.T) {
	r := rand.New(rand.NewSource(6))
	for range 5000 {
		var row []byte
		var want []found
		for range r.Intn(6) {
			payload := somePayload(r)
			want = append(want, found{len(row), string(payload)})
			row = append(row, encode(t, payload)...)
		}
		checkReads(t, "what was encoded", row, want, len(row))
		b := append(slices.Clone(row), somePayload(r)...)
		got := gone(b)
		if len(got) < len(want) || !slices.Equal(got[:len(want)], want) || frame.End(b) < len(row) {
			t.Fatalf("behind %d frames stands % x: %v", len(want), b[len(row):], got)
		}
		if all := texts(frame.All(b)); len(all) != len(got) || !slices.Equal(all[:len(want)], payloadsOf(want)) {
			t.Fatalf("All: %q", all)
		}
	}
}

// P6.2: if what stands behind is a beginning of a frame that isn't all there, nothing more is read, wherever it is cut.
func TestCutShort(t *testing.T) {
	for _, last := range []string{"", "x", "last one", string(rowOf("in", "side")), string(make([]byte, 300))} {
		row := encode(t, []byte("one"))
		row = append(row, encode(t, nil)...)
		want := []found{{0, "one"}, {11, ""}}
		checkReads(t, "nothing behind", row, want, 19)
		part := encode(t, []byte(last))
		for cut := range len(part) {
			checkReads(t, "cut short", append(slices.Clone(row), part[:cut]...), want, 19)
			checkReads(t, "cut short, alone", part[:cut], nil, 0)
		}
		whole := append(slices.Clone(row), part...)
		checkReads(t, "not cut", whole, append(want, found{19, last}), len(whole))
	}
}

// P6.2: a whole row, cut anywhere: the frames that are all there are read, and no more.
func TestRowCutAnywhere(t *testing.T) {
	r := rand.New(rand.NewSource(7))
	for range 100 {
		var row []byte
		var all []found
		for range 1 + r.Intn(5) {
			payload := somePayload(r)
			all = append(all, found{len(row), string(payload)})
			row = append(row, encode(t, payload)...)
		}
		for cut := range len(row) + 1 {
			whole, end := 0, 0
			for _, f := range all {
				if behind := f.at + 8 + len(f.payload); behind <= cut {
					whole, end = whole+1, behind
				}
			}
			checkReads(t, "a row that is cut", slices.Clone(row[:cut]), all[:whole], end)
		}
	}
}
