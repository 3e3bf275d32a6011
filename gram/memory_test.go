package gram_test

import (
	"bytes"
	"math/rand"
	"testing"

	"fletch/api"
	"fletch/gram"
)

const marked = 0xee

// roomy answers b with spare room behind it that holds marks.
func roomy(b string) []byte {
	room := bytes.Repeat([]byte{marked}, len(b)+64)
	return room[:copy(room, b)]
}

// scribble writes into bytes and their spare room.
func scribble(b []byte) {
	b = b[:cap(b)]
	for i := range b {
		b[i] = 0x55
	}
}

func checkUntouched(t *testing.T, what string, b []byte, want string) {
	t.Helper()
	if string(b) != want {
		t.Errorf("%s: what was handed in is % x now", what, b)
	}
	for _, c := range b[len(b):cap(b)] {
		if c != marked {
			t.Errorf("%s: the spare room was written to", what)
			return
		}
	}
}

// P9.4: the bytes and their spare room are as they were.
func TestBytesStayAsTheyWere(t *testing.T) {
	ins := []string{"", "a", "\x80", "\x00\x00\x00\x00", "\x05\x05\x00\x00", "\xff\xff\xff\xff\xff\xff\xff\xff\xff", summed("\x01\x01\x00\x00")}
	for _, c := range known {
		ins = append(ins, c.fields, c.fields+"more", c.fields+c.sum, c.fields+c.sum+"more")
	}
	for _, in := range ins {
		b := roomy(in)
		for _, c := range known {
			gram.Put(b, c.g)
			checkUntouched(t, "Put", b, in)
		}
		for _, g := range cannot {
			gram.Put(b, g)
			checkUntouched(t, "Put of what can't be", b, in)
		}
		gram.Take(b)
		checkUntouched(t, "Take", b, in)
		gram.Decode(b)
		checkUntouched(t, "Decode", b, in)
	}
}

// P9.4, P1: Take and Decode look at no more than b's bytes: what the spare room holds isn't read.
func TestSpareRoomIsNotRead(t *testing.T) {
	for _, c := range known {
		whole := []byte(c.fields + c.sum)
		for n := range len(whole) {
			g, e := gram.Decode(whole[:n])
			if want := modelDecode(string(whole[:n])); g != want.g || e != want.e || e == api.OK {
				t.Errorf("Decode of %d bytes with the others in the spare room: %+v, %d", n, g, e)
			}
		}
		for n := range len(c.fields) {
			if g, k, e := gram.Take(whole[:n]); g != (api.Gram{}) || k != 0 || e != api.ErrShort {
				t.Errorf("Take of %d bytes with the others in the spare room: %+v, %d, %d", n, g, k, e)
			}
		}
	}
}

// P9.4: Put's answer shares no memory with what was handed in, nor with another answer, also where the datagram can't be.
func TestPutAnswersNewMemory(t *testing.T) {
	for _, in := range []string{"", "a", "some bytes"} {
		for _, g := range []api.Gram{known[0].g, known[5].g, known[6].g, cannot[0], cannot[13]} {
			b := roomy(in)
			first, second := gram.Put(b, g), gram.Put(b, g)
			want := in + modelFields(g)
			scribble(first)
			scribble(append(first, "0123456789"...))
			checkUntouched(t, "writing into Put's answer", b, in)
			if string(second) != want {
				t.Errorf("two answers of Put of %+v share memory: % x", g, second)
			}
			scribble(b)
			if string(second) != want {
				t.Errorf("Put's answer of %+v shares memory with what was handed in: % x", g, second)
			}
		}
	}
}

// P9.4: what Encode answers is the caller's, its spare room too.
func TestEncodeAnswersNewMemory(t *testing.T) {
	for _, c := range known {
		first, _ := gram.Encode(c.g)
		second, _ := gram.Encode(c.g)
		scribble(first)
		scribble(append(first, "0123456789"...))
		if string(second) != c.fields+c.sum {
			t.Errorf("two answers of Encode of %+v share memory: % x", c.g, second)
		}
		scribble(second)
		checkEncode(t, c.g, c.fields+c.sum)
	}
}

// P9.4: datagrams that are put behind one beginning don't write into one another.
func TestTwoBehindOneBeginning(t *testing.T) {
	begin := gram.Put(nil, known[0].g)
	one, other := gram.Put(begin, known[5].g), gram.Put(begin, known[6].g)
	if string(one) != known[0].fields+known[5].fields || string(other) != known[0].fields+known[6].fields {
		t.Errorf("% x and % x", one, other)
	}
}

// P9.4, P1: nothing is kept: an answer hangs on its arguments alone, not on calls ahead of it or on what they were given.
func TestNothingIsKept(t *testing.T) {
	c := known[5]
	b := roomy(c.fields + c.sum)
	g, n, e := gram.Take(b)
	d, f := gram.Decode(b)
	scribble(b)
	if g != c.g || n != len(c.fields) || e != api.OK || d != c.g || f != api.OK {
		t.Errorf("what was taken is %+v, %d, %d, what was decoded %+v, %d, behind a change of the bytes", g, n, e, d, f)
	}
	r := rand.New(rand.NewSource(8))
	for range 200 {
		take(someBytes(r))
		decode(summed(someBytes(r)))
		gram.Encode(someGram(r))
		gram.Put([]byte(someBytes(r)), someGram(r))
		c := known[r.Intn(len(known))]
		checkEncode(t, c.g, c.fields+c.sum)
		if got := gram.Put(nil, c.g); string(got) != c.fields || !gram.Valid(c.g) {
			t.Fatalf("Put(nil, %+v) behind others: % x", c.g, got)
		}
		if take(c.fields) != (taken{c.g, len(c.fields), api.OK}) || decode(c.fields+c.sum) != (decoded{c.g, api.OK}) {
			t.Fatalf("Take or Decode of %+v behind others is another one", c.g)
		}
	}
}

// P9.4, P1: calls that run at one time don't see one another.
func TestCallsAtOneTime(t *testing.T) {
	done := make(chan bool)
	for i := range 8 {
		go func() {
			r := rand.New(rand.NewSource(int64(i)))
			fine := true
			for range 2000 {
				g := someGram(r)
				b, e := gram.Encode(g)
				fine = fine && gram.Valid(g) && e == api.OK && string(b) == summed(modelFields(g))
				fine = fine && string(gram.Put(nil, g)) == modelFields(g) && decode(string(b)) == decoded{g, api.OK}
				in := someBytes(r)
				fine = fine && take(in) == modelTake(in) && decode(summed(in)) == modelDecode(summed(in))
			}
			done <- fine
		}()
	}
	for range 8 {
		if !<-done {
			t.Error("calls at one time answer otherwise")
		}
	}
}

// P1: long bytes end every call, and tell what short ones do.
func TestLongBytes(t *testing.T) {
	for _, one := range []string{"\x00", "\x80", "\xff"} {
		b := bytes.Repeat([]byte(one), 1<<20)
		if got, want := decode(string(b)), modelDecode(string(b)); got != want {
			t.Errorf("Decode of a million % x: %+v, not %+v", one, got, want)
		}
		if got, want := take(string(b)), modelTake(string(b[:64])); got != want {
			t.Errorf("Take of a million % x: %+v, not %+v", one, got, want)
		}
	}
	long := "\x00\x01\x02\x00" + string(make([]byte, 1<<20))
	if got := decode(summed(long)); got != (decoded{e: api.ErrForm}) {
		t.Errorf("Decode of a datagram's fields with a million zeros behind: %+v", got)
	}
	if got := take(long); got != (taken{known[0].g, 4, api.OK}) {
		t.Errorf("Take of a datagram's fields with a million zeros behind: %+v", got)
	}
}
