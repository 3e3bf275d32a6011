package pack_test

import (
	"bytes"
	"math"
	"slices"
	"testing"

	"fletch/pack"
)

const marked = 0xee

// roomy answers b with spare room behind it that holds marks.
func roomy(b string) []byte {
	room := bytes.Repeat([]byte{marked}, len(b)+32)
	return room[:copy(room, b)]
}

func checkUntouched(t *testing.T, what string, b []byte, want string) {
	t.Helper()
	whole := b[:cap(b)]
	if string(whole[:len(want)]) != want {
		t.Errorf("%s: what was handed in is % x now", what, whole[:len(want)])
	}
	for _, c := range whole[len(want):] {
		if c != marked {
			t.Errorf("%s: the spare room was written to", what)
			return
		}
	}
}

func scribble(b []byte) {
	b = b[:cap(b)]
	for i := range b {
		b[i] = 0x55
	}
}

// P1.5: Put changes neither the bytes, nor their spare room, nor the numbers.
func TestPutLeavesWhatIsHandedIn(t *testing.T) {
	b := roomy("ab")
	xs := []int{5, -7, 300, math.MinInt}
	for n := range len(xs) + 1 {
		pack.Put(b, xs[:n]...)
		checkUntouched(t, "Put", b, "ab")
	}
	if !slices.Equal(xs, []int{5, -7, 300, math.MinInt}) {
		t.Errorf("the numbers are %v now", xs)
	}
}

// P1.5: Put's answer shares no memory with what was handed in, nor with another answer, also where there is no number.
func TestPutAnswersNewMemory(t *testing.T) {
	for _, xs := range [][]int{nil, {5}, {300, 128}} {
		b := roomy("ab")
		first := pack.Put(b, xs...)
		second := pack.Put(b, xs...)
		want := string(second)
		scribble(first)
		checkUntouched(t, "writing into Put's answer", b, "ab")
		if string(second) != want {
			t.Errorf("two answers of Put with %v share memory", xs)
		}
		scribble(b)
		if string(second) != want {
			t.Errorf("Put's answer with %v shares memory with what was handed in", xs)
		}
	}
}

// P1.5: Take, Numbers and New change nothing.
func TestReadingLeavesWhatIsHandedIn(t *testing.T) {
	const in = "\xac\x02\x05\x80\x00"
	b := roomy(in)
	pack.Take(b)
	checkUntouched(t, "Take", b, in)
	for range pack.Numbers(b) {
		checkUntouched(t, "Numbers", b, in)
	}
	r := pack.New(b)
	r.Number()
	scribble(r.Bytes(1))
	r.Byte()
	r.Number()
	checkUntouched(t, "a reader", b, in)
}

// P1.5: Numbers goes over what was there when it was called, whatever is done to the bytes later.
func TestNumbersKeepsNothingOfTheCaller(t *testing.T) {
	b := roomy("\xac\x02\x05\x06")
	all := pack.Numbers(b)
	want := []placed{{0, 300}, {2, 5}, {3, 6}}
	for range 2 {
		var got []placed
		for at, x := range all {
			got = append(got, placed{at, x})
			scribble(b)
		}
		if !slices.Equal(got, want) {
			t.Errorf("Numbers: %v, not %v", got, want)
		}
	}
}

// P1.5: a reader has its own copy of the bytes.
func TestReaderKeepsNothingOfTheCaller(t *testing.T) {
	b := roomy("\xac\x02\x07xy")
	r := pack.New(b)
	scribble(b)
	if x := r.Number(); x != 300 {
		t.Errorf("Number: %d", x)
	}
	if c := r.Byte(); c != 7 {
		t.Errorf("Byte: %d", c)
	}
	if got := r.Bytes(2); string(got) != "xy" {
		t.Errorf("Bytes: %q", got)
	}
}

// P1.5: what Bytes answers is the caller's, its spare room too: neither the reader nor another answer sees what is written there.
func TestBytesAnswersNewMemory(t *testing.T) {
	b := roomy("abcdef")
	r := pack.New(b)
	first := r.Bytes(2)
	scribble(first)
	scribble(append(first, 1, 2, 3, 4))
	second := r.Bytes(2)
	if string(second) != "cd" {
		t.Errorf("Bytes behind a written answer: %q", second)
	}
	scribble(first)
	if string(second) != "cd" {
		t.Error("two answers of Bytes share memory")
	}
	scribble(r.Bytes(0))
	if c := r.Byte(); c != 'e' {
		t.Errorf("Byte behind a written Bytes(0): %q", c)
	}
	if last := r.Bytes(1); string(last) != "f" {
		t.Errorf("the last byte: %q", last)
	}
	checkUntouched(t, "writing into answers of Bytes", b, "abcdef")
}

// P1.5: two readers, of the same bytes too, have nothing in common.
func TestTwoReaders(t *testing.T) {
	b := []byte("\x01\x02\x03\x80")
	one, other := pack.New(b), pack.New(b)
	if one.Number() != 1 || one.Number() != 2 {
		t.Error("the one")
	}
	checkReader(t, "the other, ahead of its first call", other, 4, false, false)
	scribble(one.Bytes(1))
	one.Number()
	checkReader(t, "the one", one, 0, true, false)
	if other.Number() != 1 || string(other.Bytes(2)) != "\x02\x03" {
		t.Error("the other")
	}
	checkReader(t, "the other", other, 1, false, false)
	checkReader(t, "the one, later", one, 0, true, false)
}
