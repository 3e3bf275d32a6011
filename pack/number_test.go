package pack_test

import (
	"bytes"
	"math"
	"math/rand"
	"slices"
	"testing"

	"fletch/pack"
)

// P1.1: known bytes, written out, at the edges that the document names.
func TestKnownBytes(t *testing.T) {
	for _, c := range []struct {
		x  int
		in string
	}{
		{0, "\x00"},
		{1, "\x01"},
		{127, "\x7f"},
		{128, "\x80\x01"},
		{300, "\xac\x02"},
		{16383, "\xff\x7f"},
		{16384, "\x80\x80\x01"},
		{1 << 40, "\x80\x80\x80\x80\x80\x20"},
		{1<<56 - 1, "\xff\xff\xff\xff\xff\xff\xff\x7f"},
		{1 << 56, "\x80\x80\x80\x80\x80\x80\x80\x80\x01"},
		{math.MaxInt, "\xff\xff\xff\xff\xff\xff\xff\xff\x7f"},
	} {
		if got := pack.Put(nil, c.x); string(got) != c.in {
			t.Errorf("Put(nil, %d): % x, not % x", c.x, got, c.in)
		}
		if x, n := pack.Take([]byte(c.in)); x != c.x || n != len(c.in) {
			t.Errorf("Take(% x): %d, %d, not %d, %d", c.in, x, n, c.x, len(c.in))
		}
		if n := pack.Size(c.x); n != len(c.in) {
			t.Errorf("Size(%d): %d, not %d", c.x, n, len(c.in))
		}
	}
}

// P1.1: Put of several numbers, of none, behind other bytes, and of numbers below 0.
func TestPut(t *testing.T) {
	for _, c := range []struct {
		b    string
		xs   []int
		want string
	}{
		{"", nil, ""},
		{"", []int{0, 127, 128, 300}, "\x00\x7f\x80\x01\xac\x02"},
		{"", []int{300, 128, 127, 0}, "\xac\x02\x80\x01\x7f\x00"},
		{"", []int{-5}, "\x00"},
		{"", []int{-1, 1, math.MinInt, -128}, "\x00\x01\x00\x00"},
		{"ab", nil, "ab"},
		{"ab", []int{0}, "ab\x00"},
		{"\x80", []int{128, -1}, "\x80\x80\x01\x00"},
	} {
		if got := pack.Put([]byte(c.b), c.xs...); string(got) != c.want {
			t.Errorf("Put(% x, %v): % x, not % x", c.b, c.xs, got, c.want)
		}
	}
}

// P1.1: Put and Size of all edges, each alone and all together.
func TestPutAndSizeOfEdges(t *testing.T) {
	all := edgeNumbers()
	var want []byte
	for _, x := range all {
		bs := modelBytes(x)
		want = append(want, bs...)
		if got := pack.Put(nil, x); !bytes.Equal(got, bs) {
			t.Errorf("Put(nil, %d): % x, not % x", x, got, bs)
		}
		if n := pack.Size(x); n != len(bs) {
			t.Errorf("Size(%d): %d, not %d", x, n, len(bs))
		}
	}
	if got := pack.Put(nil, all...); !bytes.Equal(got, want) {
		t.Error("Put of all edges: not their bytes one behind the other")
	}
	for _, x := range []int{-1, -5, -127, -128, -129, -300, math.MinInt + 1, math.MinInt} {
		if n := pack.Size(x); n != 1 {
			t.Errorf("Size(%d): %d, not 1", x, n)
		}
		if got := pack.Put([]byte{9}, x); string(got) != "\x09\x00" {
			t.Errorf("Put of %d: % x", x, got)
		}
	}
}

// P1.1: Take of bytes that begin with no number: too early an end, a needless last 0, a ninth byte above 127.
func TestTakeOfNone(t *testing.T) {
	eight := "\xff\xff\xff\xff\xff\xff\xff\xff"
	low := "\x80\x80\x80\x80\x80\x80\x80\x80"
	for _, in := range []string{
		"", "\x80", "\xff", "\xff\x80", eight, low,
		"\x80\x00", "\xff\x00", "\x80\x80\x00", "\x81\x80\x00\x05", low + "\x00", eight + "\x00",
		eight + "\x80", eight + "\xff", low + "\x80", low + "\x81\x01", eight + "\x80\x01", eight + "\xff\x00", eight + eight,
	} {
		if x, n := pack.Take([]byte(in)); x != 0 || n != 0 {
			t.Errorf("Take(% x): %d, %d, not 0, 0", in, x, n)
		}
	}
	if x, n := pack.Take(nil); x != 0 || n != 0 {
		t.Errorf("Take(nil): %d, %d", x, n)
	}
}

// P1.1: Take looks at no more than the number that the bytes begin with.
func TestTakeWithBytesBehind(t *testing.T) {
	for _, c := range []struct {
		in   string
		x, n int
	}{
		{"\x00\x00", 0, 1},
		{"\x00\x80", 0, 1},
		{"\x7f\xff", 127, 1},
		{"\xac\x02\x07", 300, 2},
		{"\xff\xff\xff\xff\xff\xff\xff\xff\x7f\xff\xff", math.MaxInt, 9},
		{"\x80\x80\x80\x80\x80\x80\x80\x80\x01\x00", 1 << 56, 9},
	} {
		if x, n := pack.Take([]byte(c.in)); x != c.x || n != c.n {
			t.Errorf("Take(% x): %d, %d, not %d, %d", c.in, x, n, c.x, c.n)
		}
	}
}

// P1.1 and P1.2: of all edges of bytes Take answers as the model; what it takes is what Put makes.
func TestTakeOfEdges(t *testing.T) {
	r := rand.New(rand.NewSource(1))
	list := edgeBytes()
	for range 5000 {
		list = append(list, someBytes(r))
	}
	for _, b := range list {
		x, n := pack.Take(b)
		if wx, wn := modelTake(b); x != wx || n != wn {
			t.Fatalf("Take(% x): %d, %d, not %d, %d", b, x, n, wx, wn)
		}
		if n > 0 && !bytes.Equal(pack.Put(nil, x), b[:n]) {
			t.Fatalf("Put(nil, %d): % x, but Take took % x", x, pack.Put(nil, x), b[:n])
		}
	}
}

// P1.2: of each number, whatever stands behind it, there and back.
func TestThereAndBack(t *testing.T) {
	r := rand.New(rand.NewSource(2))
	numbers := edgeNumbers()
	for range 2000 {
		numbers = append(numbers, int(r.Int63()>>r.Intn(63)))
	}
	for _, x := range numbers {
		for _, tail := range []string{"", "\x00", "\x01", "\x7f", "\x80", "\xff\xff", "\x80\x80\x80\x80\x80\x80\x80\x80\x80"} {
			b := append(pack.Put(nil, x), tail...)
			if y, n := pack.Take(b); y != x || n != pack.Size(x) {
				t.Fatalf("Take of %d's bytes and % x: %d, %d, not %d, %d", x, tail, y, n, x, pack.Size(x))
			}
		}
	}
}

func gathered(b []byte) []placed {
	var out []placed
	for at, x := range pack.Numbers(b) {
		out = append(out, placed{at, x})
	}
	return out
}

// P1.3: known lists, and where they end.
func TestNumbers(t *testing.T) {
	for _, c := range []struct {
		in   string
		want []placed
	}{
		{"", nil},
		{"\x80", nil},
		{"\x80\x00\x05", nil},
		{"\x00", []placed{{0, 0}}},
		{"\x00\x7f\x80\x01\x80", []placed{{0, 0}, {1, 127}, {2, 128}}},
		{"\xac\x02\x05\xac\x02", []placed{{0, 300}, {2, 5}, {3, 300}}},
		{"\x05\x80\x00\x06", []placed{{0, 5}}},
		{"\xff\xff\xff\xff\xff\xff\xff\xff\x7f\x01", []placed{{0, math.MaxInt}, {9, 1}}},
		{"\x02\xff\xff\xff\xff\xff\xff\xff\xff\x80\x01", []placed{{0, 2}}},
	} {
		if got := gathered([]byte(c.in)); !slices.Equal(got, c.want) {
			t.Errorf("Numbers(% x): %v, not %v", c.in, got, c.want)
		}
	}
	if got := gathered(nil); got != nil {
		t.Errorf("Numbers(nil): %v", got)
	}
}

// P1.3: of all edges and of many lists, as the model says.
func TestNumbersOfEdges(t *testing.T) {
	r := rand.New(rand.NewSource(3))
	list := append(edgeBytes(), pack.Put(nil, edgeNumbers()...))
	for range 5000 {
		list = append(list, someBytes(r))
	}
	for _, b := range list {
		if got, want := gathered(b), modelNumbers(b); !slices.Equal(got, want) {
			t.Fatalf("Numbers(% x): %v, not %v", b, got, want)
		}
	}
}

// P1.3: one answer is gone over again and again, left after any number of steps, and gone over within itself.
func TestNumbersAgain(t *testing.T) {
	b := pack.Put(nil, 1, 300, 0, math.MaxInt, 128)
	want := modelNumbers(b)
	all := pack.Numbers(b)
	for stop := range len(want) + 1 {
		var got []placed
		for at, x := range all {
			if len(got) == stop {
				break
			}
			got = append(got, placed{at, x})
		}
		if !slices.Equal(got, want[:stop]) {
			t.Errorf("left after %d: %v", stop, got)
		}
	}
	var outer []placed
	for at, x := range all {
		outer = append(outer, placed{at, x})
		var inner []placed
		for at, x := range all {
			inner = append(inner, placed{at, x})
		}
		if !slices.Equal(inner, want) {
			t.Errorf("within itself: %v", inner)
		}
	}
	if !slices.Equal(outer, want) {
		t.Errorf("around itself: %v", outer)
	}
}

// P1.3: who stops isn't asked again.
func TestNumbersStopped(t *testing.T) {
	asked := 0
	pack.Numbers([]byte{1, 2, 3})(func(int, int) bool {
		asked++
		return asked < 2
	})
	if asked != 2 {
		t.Errorf("asked %d times, stopped at the second", asked)
	}
}
