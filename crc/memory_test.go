package crc_test

import (
	"bytes"
	"testing"

	"fletch/crc"
)

const marked = 0xee

// roomy answers b with spare room behind it that holds marks.
func roomy(b string) []byte {
	room := bytes.Repeat([]byte{marked}, len(b)+16)
	return room[:copy(room, b)]
}

func checkUntouched(t *testing.T, what string, b []byte, want string) {
	t.Helper()
	whole := b[:cap(b)]
	if string(b) != want {
		t.Errorf("%s: what was handed in is %q now", what, b)
	}
	for _, c := range whole[len(want):] {
		if c != marked {
			t.Errorf("%s: the spare room was written to", what)
			return
		}
	}
}

// P2.4: the bytes and their spare room are as they were.
func TestBytesStayAsTheyWere(t *testing.T) {
	for _, in := range []string{"", "\x00", "123456789"} {
		b := roomy(in)
		crc.Sum(b)
		checkUntouched(t, "Sum", b, in)
		crc.Add(0x12345678, b)
		checkUntouched(t, "Add", b, in)
		crc.Parts(b, b)
		checkUntouched(t, "Parts", b, in)
	}
}

// P2.4: nor is the list of lists changed, or the room behind it.
func TestListsStayAsTheyWere(t *testing.T) {
	room := [][]byte{roomy("123"), nil, roomy(""), roomy("456789"), roomy("spare")}
	lists := room[:4]
	crc.Parts(lists...)
	for i, want := range []string{"123", "", "", "456789", "spare"} {
		checkUntouched(t, "Parts", room[i], want)
	}
	if room[1] != nil {
		t.Error("Parts changed the list of lists")
	}
}

// P2.4, P1: nothing is kept: an answer hangs on its arguments alone, not on calls ahead of it or on what they were given.
func TestNothingIsKept(t *testing.T) {
	b := roomy("123456789")
	first := crc.Sum(b)
	for i := range b {
		b[i] = 0x55
	}
	if got, want := crc.Sum(b), modelAdd(0, b); got != want || got == first {
		t.Errorf("Sum behind a change of its bytes: %08x, not %08x", got, want)
	}
	copy(b, "123456789")
	for range 3 {
		crc.Add(7, []byte("else"))
		crc.Parts([]byte("other"), b)
		if got := crc.Sum(b); got != 0xcbf43926 {
			t.Errorf("Sum behind other calls: %08x", got)
		}
	}
}

// P2.4, P1: calls that run at one time don't see one another.
func TestCallsAtOneTime(t *testing.T) {
	got := make(chan uint32)
	for i := range 8 {
		go func() {
			b := bytes.Repeat([]byte{byte(i)}, 10000)
			got <- crc.Parts(b[:500], b[500:]) ^ modelAdd(0, b)
		}()
	}
	for range 8 {
		if diff := <-got; diff != 0 {
			t.Error("calls at one time answer other sums")
		}
	}
}
