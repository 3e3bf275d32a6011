package crc_test

import (
	"hash/crc32"
	"math/rand"
	"testing"

	"fletch/crc"
)

// P2.1: the chapter's examples.
func TestExamples(t *testing.T) {
	for _, c := range []struct {
		in   string
		want uint32
	}{
		{"123456789", 0xcbf43926},
		{"\x00", 0xd202ef8d},
		{"", 0},
	} {
		if got := crc.Sum([]byte(c.in)); got != c.want {
			t.Errorf("Sum(%q): %08x, not %08x", c.in, got, c.want)
		}
	}
	if got := crc.Add(crc.Sum([]byte("12345")), []byte("6789")); got != 0xcbf43926 {
		t.Errorf("Add: %08x", got)
	}
	if got := crc.Parts([]byte("123"), nil, []byte("456789")); got != 0xcbf43926 {
		t.Errorf("Parts: %08x", got)
	}
}

// P2.1: Sum and Parts of one list are the sum that the chapter says, which is the library's CRC-32 too.
func TestSumIsTheSum(t *testing.T) {
	for _, b := range sampleLists() {
		want := modelAdd(0, b)
		if lib := crc32.ChecksumIEEE(b); lib != want {
			t.Fatalf("the model's sum of %d bytes is %08x, the library's %08x", len(b), want, lib)
		}
		if got := crc.Sum(b); got != want {
			t.Fatalf("Sum of %d bytes: %08x, not %08x", len(b), got, want)
		}
		if got := crc.Parts(b); got != want {
			t.Fatalf("Parts of %d bytes: %08x, not %08x", len(b), got, want)
		}
	}
}

// P2.1: Add goes on from every sum, also one that is the sum of no bytes at hand.
func TestAddGoesOn(t *testing.T) {
	lists := sampleLists()
	lists = lists[:len(lists)-1] // the long one would take long from every sum
	for _, sum := range sampleSums() {
		for _, b := range lists {
			if got, want := crc.Add(sum, b), modelAdd(sum, b); got != want {
				t.Fatalf("Add(%08x, % x): %08x, not %08x", sum, b, got, want)
			}
		}
	}
}

// P2.1: Add of no bytes answers its sum, and Add from 0 is Sum.
func TestAddAtItsEdges(t *testing.T) {
	for _, sum := range sampleSums() {
		for _, b := range [][]byte{nil, {}, make([]byte, 0, 9)} {
			if got := crc.Add(sum, b); got != sum {
				t.Errorf("Add(%08x, nothing): %08x", sum, got)
			}
		}
	}
	for _, b := range sampleLists() {
		if got, want := crc.Add(0, b), crc.Sum(b); got != want {
			t.Fatalf("Add(0, b) of %d bytes: %08x, not %08x", len(b), got, want)
		}
	}
}

// P2.1: the sum of nothing is 0, however there is nothing.
func TestSumOfNothing(t *testing.T) {
	var none [][]byte
	for what, got := range map[string]uint32{
		"Sum(nil)":                 crc.Sum(nil),
		"Sum of an empty list":     crc.Sum([]byte{}),
		"Parts()":                  crc.Parts(),
		"Parts of no lists":        crc.Parts(none...),
		"Parts(nil)":               crc.Parts(nil),
		"Parts of an empty list":   crc.Parts([]byte{}),
		"Parts of several of none": crc.Parts(nil, []byte{}, nil),
		"Add(0, nil)":              crc.Add(0, nil),
	} {
		if got != 0 {
			t.Errorf("%s: %08x", what, got)
		}
	}
}

// P2.2: two parts, cut at every place.
func TestCutInTwo(t *testing.T) {
	r := rand.New(rand.NewSource(4))
	for n := range 70 {
		b := randomBytes(r, n)
		want := modelAdd(0, b)
		for at := range n + 1 {
			if got := crc.Add(crc.Sum(b[:at]), b[at:]); got != want {
				t.Fatalf("Add behind %d of %d bytes: %08x, not %08x", at, n, got, want)
			}
			if got := crc.Parts(b[:at], b[at:]); got != want {
				t.Fatalf("Parts, cut at %d of %d bytes: %08x, not %08x", at, n, got, want)
			}
		}
	}
}

// P2.2: any number of parts, empty ones among them, and each byte by itself.
func TestCutAnyhow(t *testing.T) {
	r := rand.New(rand.NewSource(5))
	for range 500 {
		b := randomBytes(r, r.Intn(200))
		want := modelAdd(0, b)
		var parts [][]byte
		for left := b; len(left) > 0; {
			n := r.Intn(min(len(left), 1+r.Intn(40)) + 1)
			parts = append(parts, left[:n])
			left = left[n:]
		}
		if got := crc.Parts(parts...); got != want {
			t.Fatalf("Parts, %d of %d bytes: %08x, not %08x", len(parts), len(b), got, want)
		}
		sum := uint32(0)
		for i := range b {
			sum = crc.Add(sum, b[i:i+1])
		}
		if sum != want {
			t.Fatalf("Add, byte by byte of %d: %08x, not %08x", len(b), sum, want)
		}
	}
}

// P2.2: from any sum on it is the same as well.
func TestCutBehindAnySum(t *testing.T) {
	r := rand.New(rand.NewSource(6))
	for _, sum := range sampleSums() {
		b := randomBytes(r, 33)
		for at := range len(b) + 1 {
			if got, want := crc.Add(crc.Add(sum, b[:at]), b[at:]), modelAdd(sum, b); got != want {
				t.Fatalf("Add behind %08x, cut at %d: %08x, not %08x", sum, at, got, want)
			}
		}
	}
}
