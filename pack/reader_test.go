package pack_test

import (
	"bytes"
	"math"
	"math/rand"
	"testing"

	"fletch/pack"
)

// modelReader keeps its place and its fault, as the document tells it.
type modelReader struct {
	b     []byte
	at    int
	fault bool
}

func (m *modelReader) number() int {
	x, n := 0, 0
	if !m.fault {
		x, n = modelTake(m.b[m.at:])
	}
	m.at += n
	m.fault = m.fault || n == 0
	return x
}

func (m *modelReader) bytes(n int) []byte {
	if m.fault || n < 0 || n > len(m.b)-m.at {
		m.fault = true
		return nil
	}
	m.at += n
	return m.b[m.at-n : m.at]
}

func (m *modelReader) byte() byte {
	for _, c := range m.bytes(1) {
		return c
	}
	return 0
}

func (m *modelReader) left() int {
	if m.fault {
		return 0
	}
	return len(m.b) - m.at
}

func checkReader(t *testing.T, what string, r *pack.Reader, left int, bad, end bool) {
	t.Helper()
	if r.Left() != left || r.Bad() != bad || r.End() != end {
		t.Errorf("%s: Left %d, Bad %v, End %v, not %d, %v, %v", what, r.Left(), r.Bad(), r.End(), left, bad, end)
	}
}

// checkSpent: behind a fault nothing is taken and nothing changes, whatever is asked.
func checkSpent(t *testing.T, what string, r *pack.Reader) {
	t.Helper()
	for range 2 {
		checkReader(t, what, r, 0, true, false)
		if x := r.Number(); x != 0 {
			t.Errorf("%s: Number %d", what, x)
		}
		if c := r.Byte(); c != 0 {
			t.Errorf("%s: Byte %d", what, c)
		}
		for _, n := range []int{-1, 0, 1, 2, math.MaxInt} {
			if b := r.Bytes(n); len(b) != 0 {
				t.Errorf("%s: Bytes(%d) % x", what, n, b)
			}
		}
	}
}

// P1.4: the document's example.
func TestReader(t *testing.T) {
	r := pack.New([]byte{5, 1, 2})
	checkReader(t, "at the beginning", r, 3, false, false)
	if x := r.Number(); x != 5 {
		t.Errorf("Number: %d", x)
	}
	if b := r.Bytes(1); string(b) != "\x01" {
		t.Errorf("Bytes: % x", b)
	}
	checkReader(t, "one left", r, 1, false, false)
	if c := r.Byte(); c != 2 {
		t.Errorf("Byte: %d", c)
	}
	checkReader(t, "at the end", r, 0, false, true)
	if c := r.Byte(); c != 0 {
		t.Errorf("Byte at the end: %d", c)
	}
	checkSpent(t, "behind the end", r)
}

// P1.4: each call over bytes that it can take in full, and what it leaves.
func TestReaderTakes(t *testing.T) {
	r := pack.New([]byte("\xac\x02\xac\x02\xff\xff\xff\xff\xff\xff\xff\xff\x7fxyz\x00\x80"))
	if x := r.Number(); x != 300 {
		t.Errorf("Number: %d", x)
	}
	checkReader(t, "behind 300", r, 16, false, false)
	if c := r.Byte(); c != 0xac {
		t.Errorf("Byte: %x", c)
	}
	if x := r.Number(); x != 2 {
		t.Errorf("Number: %d", x)
	}
	if x := r.Number(); x != math.MaxInt {
		t.Errorf("Number: %d", x)
	}
	if b := r.Bytes(3); string(b) != "xyz" {
		t.Errorf("Bytes: %q", b)
	}
	if b := r.Bytes(0); len(b) != 0 {
		t.Errorf("Bytes(0): % x", b)
	}
	checkReader(t, "behind xyz", r, 2, false, false)
	if x := r.Number(); x != 0 {
		t.Errorf("Number: %d", x)
	}
	checkReader(t, "behind the number 0, which is no fault", r, 1, false, false)
	if c := r.Byte(); c != 0x80 {
		t.Errorf("Byte: %x", c)
	}
	checkReader(t, "at the end", r, 0, false, true)
	if b := r.Bytes(0); len(b) != 0 {
		t.Errorf("Bytes(0): % x", b)
	}
	checkReader(t, "Bytes(0) at the end, which is no fault", r, 0, false, true)
}

// P1.4: each way to a fault; bytes that are there behind it are taken no more.
func TestReaderFaults(t *testing.T) {
	number := func(r *pack.Reader) int { return r.Number() }
	one := func(r *pack.Reader) int { return int(r.Byte()) }
	some := func(n int) func(*pack.Reader) int {
		return func(r *pack.Reader) int { return len(r.Bytes(n)) }
	}
	for _, c := range []struct {
		what string
		in   string
		call func(*pack.Reader) int
	}{
		{"Number of nothing", "", number},
		{"Number that ends too early", "\x80", number},
		{"Number with a needless 0", "\x80\x00\x05", number},
		{"Number with a ninth byte above 127", "\xff\xff\xff\xff\xff\xff\xff\xff\x80\x01", number},
		{"Byte of nothing", "", one},
		{"Bytes(-1)", "abc", some(-1)},
		{"Bytes(least)", "abc", some(math.MinInt)},
		{"Bytes(-1) of nothing", "", some(-1)},
		{"Bytes(4)", "abc", some(4)},
		{"Bytes(1) of nothing", "", some(1)},
		{"Bytes(greatest)", "abc", some(math.MaxInt)},
	} {
		r := pack.New([]byte(c.in))
		checkReader(t, c.what+", ahead", r, len(c.in), false, len(c.in) == 0)
		if got := c.call(r); got != 0 {
			t.Errorf("%s: %d", c.what, got)
		}
		checkSpent(t, c.what, r)
	}
}

// P1.4: of nothing, nil or empty.
func TestReaderOfNothing(t *testing.T) {
	for _, b := range [][]byte{nil, {}} {
		r := pack.New(b)
		checkReader(t, "of nothing", r, 0, false, true)
		if b := r.Bytes(0); len(b) != 0 {
			t.Errorf("Bytes(0): % x", b)
		}
		checkReader(t, "of nothing, behind Bytes(0)", r, 0, false, true)
	}
}

// P1.4: a nil reader has nothing, and no fault either.
func TestNilReader(t *testing.T) {
	var r *pack.Reader
	for range 2 {
		if x := r.Number(); x != 0 {
			t.Errorf("Number: %d", x)
		}
		if c := r.Byte(); c != 0 {
			t.Errorf("Byte: %d", c)
		}
		for _, n := range []int{math.MinInt, -1, 0, 1, math.MaxInt} {
			if b := r.Bytes(n); len(b) != 0 {
				t.Errorf("Bytes(%d): % x", n, b)
			}
		}
		checkReader(t, "nil", r, 0, false, false)
	}
}

// P1.4: in every order of calls as the model says.
func TestReaderInEveryOrder(t *testing.T) {
	rnd := rand.New(rand.NewSource(4))
	for range 20000 {
		b := someBytes(rnd)
		r, m := pack.New(b), &modelReader{b: bytes.Clone(b)}
		for range rnd.Intn(12) {
			switch rnd.Intn(3) {
			case 0:
				if got, want := r.Number(), m.number(); got != want {
					t.Fatalf("% x: Number %d, not %d", b, got, want)
				}
			case 1:
				if got, want := r.Byte(), m.byte(); got != want {
					t.Fatalf("% x: Byte %d, not %d", b, got, want)
				}
			default:
				n := rnd.Intn(6) - rnd.Intn(2)
				if got, want := r.Bytes(n), m.bytes(n); !bytes.Equal(got, want) {
					t.Fatalf("% x: Bytes(%d) % x, not % x", b, n, got, want)
				}
			}
			if r.Left() != m.left() || r.Bad() != m.fault || r.End() != (!m.fault && m.left() == 0) {
				t.Fatalf("% x, %d taken: Left %d, Bad %v, End %v", b, m.at, r.Left(), r.Bad(), r.End())
			}
		}
	}
}
