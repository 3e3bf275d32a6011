package frame_test

import (
	"bytes"
	"math"
	"math/rand"
	"slices"
	"testing"

	"fletch/api"
	"fletch/frame"
)

// encode encodes what isn't too long.
func encode(t *testing.T, payload []byte) []byte {
	t.Helper()
	b, e := frame.Encode(payload)
	if e != api.OK {
		t.Fatalf("Encode of %d bytes: error %d", len(payload), e)
	}
	return b
}

// P6.1: the chapter's first example, with the sums written out.
func TestExampleEncode(t *testing.T) {
	if got := encode(t, []byte("a")); string(got) != "\x01\x00\x00\x00\x63\x8f\xf7\xc1\x61" {
		t.Errorf("Encode(a): % x", got)
	}
	for _, none := range [][]byte{nil, {}} {
		if got := encode(t, none); string(got) != "\x00\x00\x00\x00\x1c\xdf\x44\x21" {
			t.Errorf("Encode of nothing: % x", got)
		}
	}
}

// P6.1: the chapter's second example.
func TestExampleReading(t *testing.T) {
	a := encode(t, []byte("a"))
	twice := slices.Concat(a, a)
	checkReads(t, "twice", twice, []found{{0, "a"}, {9, "a"}}, 18)
	checkReads(t, "twice, one byte cut off", twice[:17], []found{{0, "a"}}, 9)
	checkReads(t, "seven bytes", twice[:7], nil, 0)
}

// P6.1: a payload's frame, of each length at which another byte of it counts.
func TestEncode(t *testing.T) {
	for _, payload := range edgePayloads() {
		b := encode(t, payload)
		if !bytes.Equal(b, modelEncode(payload)) {
			t.Fatalf("Encode of %d bytes, % x: % x", len(payload), short(payload), short(b))
		}
		checkReads(t, "what was encoded", b, []found{{0, string(payload)}}, len(b))
	}
}

// P6.1: MaxPayload bytes are taken, one more and any more are too long, and nothing is answered beside the error.
func TestEncodeTooLong(t *testing.T) {
	const most = 1 << 20
	if b, e := frame.Encode(make([]byte, most)); e != api.OK || len(b) != most+8 {
		t.Errorf("of %d bytes: %d bytes, error %d", most, len(b), e)
	}
	for _, n := range []int{most + 1, most + 2, most + 256, 2 * most, 1 << 24, 1<<24 + 1} {
		if b, e := frame.Encode(make([]byte, n)); len(b) != 0 || e != api.ErrLong {
			t.Errorf("of %d bytes: %d bytes, error %d", n, len(b), e)
		}
	}
}

// P6.1: where no frame begins nothing is read.
func TestNoFrames(t *testing.T) {
	for _, b := range [][]byte{nil, {}, make([]byte, 7), make([]byte, 8), make([]byte, 9), make([]byte, 4096), []byte("no frame at all, but a text")} {
		checkReads(t, "no frame", b, nil, 0)
	}
	r := rand.New(rand.NewSource(2))
	for n := range 100 {
		checkReads(t, "the first byte is missing", rowOf("abc", "d")[1:], nil, 0)
		checkAsModel(t, "any bytes", randomBytes(r, n))
	}
}

// P6.1: rows of frames, with anything behind them, or with one byte turned anywhere.
func TestRows(t *testing.T) {
	r := rand.New(rand.NewSource(3))
	frames := 0
	for range 20000 {
		var b []byte
		for range r.Intn(6) {
			b = append(b, modelEncode(somePayload(r))...)
		}
		if r.Intn(2) == 0 {
			b = append(b, randomBytes(r, r.Intn(12))...)
		}
		if len(b) > 0 && r.Intn(3) == 0 {
			b[r.Intn(len(b))] ^= byte(1 + r.Intn(255))
		}
		frames += checkAsModel(t, "a row", b)
	}
	if frames < 30000 {
		t.Errorf("the rows have %d frames only", frames)
	}
}

// P6.1: each change of one byte of a frame, its head too, ends what is read there, and what stands behind isn't read.
func TestOneByteSpoilt(t *testing.T) {
	row := rowOf("first", "the second", "third")
	at, end := 13, 31 // the second frame's
	for i := at; i < end; i++ {
		for by := 1; by < 256; by++ {
			bad := bytes.Clone(row)
			bad[i] ^= byte(by)
			checkReads(t, "a spoilt byte", bad, []found{{0, "first"}}, 13)
		}
	}
	for i := end; i < len(row); i++ {
		bad := bytes.Clone(row)
		bad[i]++
		checkReads(t, "a spoilt byte of the last", bad, []found{{0, "first"}, {13, "the second"}}, end)
	}
}

// P6.1: two bytes that change places are told, in the head as well.
func TestBytesOutOfPlace(t *testing.T) {
	row := rowOf("\x01\x02\x03", "behind")
	for i := range 11 {
		for j := range i {
			bad := bytes.Clone(row)
			bad[i], bad[j] = bad[j], bad[i]
			if !bytes.Equal(bad, row) {
				checkReads(t, "two bytes changed places", bad, nil, 0)
			}
		}
	}
}

// P6.1: the length tells where a frame ends: with another one it is none, even if the sum is right for it and for what stands behind.
func TestAnotherLength(t *testing.T) {
	payload := []byte("payload")
	behind := rowOf("behind")
	for _, length := range []uint32{8, 9, 255, 1 << 8, 7 << 8, 7 << 24, 1 << 20, 1<<20 + 1, math.MaxInt32, 1 << 31, math.MaxUint32 - 7, math.MaxUint32 - 6, math.MaxUint32} {
		checkReads(t, "a length beyond what is there", summed(length, payload), nil, 0)
	}
	for length := range uint32(7) {
		checkReads(t, "too small a length", append(summed(length, payload), behind...), nil, 0)
		// With the sum of what the length takes in it is a frame, and the rest stands behind it.
		sum := rightSum(length, payload[:length])
		checkAsModel(t, "a smaller length", append(headed(length, sum, payload), behind...))
		checkReads(t, "the sum of what the length takes in", headed(length, sum, payload), []found{{0, string(payload[:length])}}, 8+int(length))
	}
}

// P6.1: the sum is over the length and the payload, its lowest byte first.
func TestAnotherSum(t *testing.T) {
	payload := []byte("payload")
	sum := rightSum(7, payload)
	turned := sum>>24 | sum>>8&0xff00 | sum<<8&0xff0000 | sum<<24
	payloadOnly := rightSum(0x6c796170, payload[4:]) // of the payload's bytes alone
	lengthOnly := rightSum(7, nil)
	for _, bad := range []uint32{0, ^sum, sum + 1, sum - 1, turned, payloadOnly, lengthOnly, math.MaxUint32} {
		checkReads(t, "another sum", append(headed(7, bad, payload), rowOf("behind")...), nil, 0)
	}
	for bit := range 32 {
		checkReads(t, "a bit of the sum", headed(7, sum^1<<bit, payload), nil, 0)
	}
	checkReads(t, "the sum", headed(7, sum, payload), []found{{0, "payload"}}, 15)
}

// P6.1: a frame may have MaxPayload bytes; with one more it is none, though all of it is there and its sum is right.
func TestLongFrames(t *testing.T) {
	const most = 1 << 20
	r := rand.New(rand.NewSource(4))
	b := randomBytes(r, 4*most)
	behind := rowOf("behind")
	for _, n := range []int{most - 1, most} {
		row := slices.Concat(rowOf("a"), summed(uint32(n), b[:n]), behind)
		checkReads(t, "a long frame", row, []found{{0, "a"}, {9, string(b[:n])}, {9 + 8 + n, "behind"}}, len(row))
		checkReads(t, "a long frame, one byte cut off", row[:9+8+n-1], []found{{0, "a"}}, 9)
	}
	for _, n := range []int{most + 1, most + 256, 2 * most, 4 * most} {
		row := slices.Concat(rowOf("a"), summed(uint32(n), b[:n]), behind)
		checkReads(t, "too long a frame", row, []found{{0, "a"}}, 9)
	}
}

// P6.1: what lies in a payload isn't read as a frame, and frames that are alike are all read.
func TestFramesInFrames(t *testing.T) {
	inner := string(rowOf("x", "", "y"))
	outer := rowOf(inner, "", "", inner)
	n := 8 + len(inner)
	want := []found{{0, inner}, {n, ""}, {n + 8, ""}, {n + 16, inner}}
	checkReads(t, "frames in frames", outer, want, len(outer))
	checkReads(t, "what lies in one", outer[8:8+len(inner)], []found{{0, "x"}, {9, ""}, {17, "y"}}, len(inner))
}

// P6.1, P1: bytes beyond the list's end, in its spare room, aren't read.
func TestSpareRoomIsNotRead(t *testing.T) {
	row := rowOf("first", "second")
	for cut := range len(row) {
		want, end := modelGood(bytes.Clone(row[:cut]))
		checkReads(t, "with frames in the spare room", row[:cut], want, end)
	}
}

// P6.1: no call that panics or never ends, whatever the head says.
func TestAnyHead(t *testing.T) {
	r := rand.New(rand.NewSource(5))
	for range 20000 {
		b := randomBytes(r, r.Intn(24))
		length := r.Uint32() >> r.Intn(33)
		checkAsModel(t, "any head", append(summed(length, b), rowOf("behind")...))
	}
}

// P6.1, P1: many small frames take a moment, and all of them are read.
func TestManyFrames(t *testing.T) {
	const n = 300000
	var want []found
	var row []byte
	for i := range n {
		payload := string([]byte{byte(i), byte(i >> 8), byte(i >> 16)}[:i%4])
		want = append(want, found{len(row), payload})
		row = append(row, modelEncode([]byte(payload))...)
	}
	checkReads(t, "many frames", row, want, len(row))
}
