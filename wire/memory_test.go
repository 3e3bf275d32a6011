package wire_test

import (
	"bytes"
	"math/rand"
	"testing"

	"fletch/api"
	"fletch/wire"
)

const marked = 0xee

// roomy answers b with spare room behind it that holds marks.
func roomy(b string) []byte {
	room := bytes.Repeat([]byte{marked}, len(b)+64)
	return room[:copy(room, b)]
}

// scribble writes into bytes and their spare room.
func scribble(b []byte) {
	b = b[:cap(b)]
	for i := range b {
		b[i] = 0x55
	}
}

func checkUntouched(t *testing.T, what string, b []byte, want string) {
	t.Helper()
	if string(b) != want {
		t.Errorf("%s: what was handed in is % x now", what, b)
	}
	for _, c := range b[len(b):cap(b)] {
		if c != marked {
			t.Errorf("%s: the spare room was written to", what)
			return
		}
	}
}

// P8.3: the bytes and their spare room are as they were.
func TestBytesStayAsTheyWere(t *testing.T) {
	for _, in := range []string{"", "a", "\x80", "\x01\x02\x03\xac\x02", "\x04\x00\x01\x01\x05more", "\x05\x00\x00\x01", "\xff\xff\xff\xff\xff\xff\xff\xff\xff"} {
		b := roomy(in)
		for _, c := range known {
			wire.Put(b, c.m)
			checkUntouched(t, "Put", b, in)
		}
		for _, m := range cannot {
			wire.Put(b, m)
			checkUntouched(t, "Put of what can't be", b, in)
		}
		wire.Take(b)
		checkUntouched(t, "Take", b, in)
		wire.Fault(b)
		checkUntouched(t, "Fault", b, in)
	}
}

// P8.3, P1: Take and Fault look at no more than b's bytes: what the spare room holds isn't read as a part of a message.
func TestSpareRoomIsNotRead(t *testing.T) {
	whole := []byte("\x04\x00\x01\x01\x05")
	for n := range len(whole) {
		if got, want := take(whole[:n]), (taken{e: api.ErrShort}); got != want {
			t.Errorf("Take of %d bytes with the others in the spare room: %+v", n, got)
		}
	}
	long := []byte("\x80\x80\x80\x80\x80\x80\x80\x80\x01")
	if got := wire.Fault(long[:8]); got != api.ErrShort {
		t.Errorf("Fault of eight bytes with one in the spare room: %d", got)
	}
}

// P8.3: Put's answer shares no memory with what was handed in, nor with another answer, also where the message can't be.
func TestPutAnswersNewMemory(t *testing.T) {
	for _, in := range []string{"", "a", "some bytes"} {
		for _, m := range []api.Msg{known[0].m, known[1].m, cannot[0], cannot[3]} {
			b := roomy(in)
			first, second := wire.Put(b, m), wire.Put(b, m)
			want := in + modelBytes(m)
			scribble(first)
			scribble(append(first, "0123456789"...))
			checkUntouched(t, "writing into Put's answer", b, in)
			if string(second) != want {
				t.Errorf("two answers of Put of %+v share memory: % x", m, second)
			}
			scribble(b)
			if string(second) != want {
				t.Errorf("Put's answer of %+v shares memory with what was handed in: % x", m, second)
			}
		}
	}
}

// P8.3: messages that are put behind one beginning don't write into one another.
func TestTwoBehindOneBeginning(t *testing.T) {
	begin := wire.Put(nil, known[0].m)
	one, other := wire.Put(begin, known[1].m), wire.Put(begin, known[3].m)
	if string(one) != known[0].in+known[1].in || string(other) != known[0].in+known[3].in {
		t.Errorf("% x and % x", one, other)
	}
}

// P8.3, P1: nothing is kept: an answer hangs on its arguments alone, not on calls ahead of it or on what they were given.
func TestNothingIsKept(t *testing.T) {
	b := roomy(known[1].in)
	m, n, e := wire.Take(b)
	scribble(b)
	if m != known[1].m || n != len(known[1].in) || e != api.OK {
		t.Errorf("what was taken is %+v, %d, %d behind a change of the bytes", m, n, e)
	}
	r := rand.New(rand.NewSource(7))
	for range 200 {
		take([]byte(someBytes(r)))
		wire.Fault([]byte(someBytes(r)))
		c := known[r.Intn(len(known))]
		if got, want := take([]byte(c.in)), (taken{c.m, len(c.in), api.OK}); got != want {
			t.Fatalf("Take(% x) behind others: %+v", c.in, got)
		}
		wire.Put(nil, someMessage(r))
		if got := wire.Put(nil, c.m); string(got) != c.in || !wire.Valid(c.m) {
			t.Fatalf("Put(nil, %+v) behind others: % x", c.m, got)
		}
	}
}

// P8.3, P1: calls that run at one time don't see one another.
func TestCallsAtOneTime(t *testing.T) {
	done := make(chan bool)
	for i := range 8 {
		go func() {
			r := rand.New(rand.NewSource(int64(i)))
			fine := true
			for range 2000 {
				m := someMessage(r)
				b := wire.Put(nil, m)
				fine = fine && wire.Valid(m) && string(b) == modelBytes(m) && take(b) == taken{m, len(b), api.OK}
				in := someBytes(r)
				fine = fine && take([]byte(in)) == modelTake(in) && wire.Fault([]byte(in)) == modelFault(in)
			}
			done <- fine
		}()
	}
	for range 8 {
		if !<-done {
			t.Error("calls at one time answer otherwise")
		}
	}
}
