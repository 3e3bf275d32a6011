package frame_test

import (
	"bytes"
	"encoding/binary"
	"hash/crc32"
	"math/rand"
	"slices"
	"testing"

	"fletch/api"
	"fletch/frame"
)

// found is a good frame: its place and its payload.
type found struct {
	at      int
	payload string
}

// headed puts a length and a sum, whatever they are, ahead of the bytes.
func headed(length, sum uint32, b []byte) []byte {
	out := binary.LittleEndian.AppendUint32(nil, length)
	return append(binary.LittleEndian.AppendUint32(out, sum), b...)
}

// rightSum answers the sum of a length and of the bytes behind it, by the library's CRC-32.
func rightSum(length uint32, b []byte) uint32 {
	return crc32.ChecksumIEEE(append(binary.LittleEndian.AppendUint32(nil, length), b...))
}

// summed puts a length ahead of the bytes, whatever it is, and the sum that is right for both.
func summed(length uint32, b []byte) []byte {
	return headed(length, rightSum(length, b), b)
}

func modelEncode(payload []byte) []byte {
	return summed(uint32(len(payload)), payload)
}

// modelFirst tries each length: a good frame is a payload's own bytes and nothing else.
func modelFirst(b []byte) (string, bool) {
	for n := 0; n <= api.MaxPayload && n <= len(b)-8; n++ {
		if binary.LittleEndian.Uint32(b) == uint32(n) && bytes.HasPrefix(b, modelEncode(b[8:8+n])) {
			return string(b[8 : 8+n]), true
		}
	}
	return "", false
}

// modelGood answers the good frames, and how many bytes they have together.
func modelGood(b []byte) ([]found, int) {
	var out []found
	end := 0
	for {
		payload, ok := modelFirst(b[end:])
		if !ok {
			return out, end
		}
		out = append(out, found{end, payload})
		end += 8 + len(payload)
	}
}

// rowOf answers the model's frames of the payloads, one behind the other.
func rowOf(payloads ...string) []byte {
	var out []byte
	for _, p := range payloads {
		out = append(out, modelEncode([]byte(p))...)
	}
	return out
}

// gone answers all that is gone over.
func gone(b []byte) []found {
	var out []found
	for at, payload := range frame.Frames(b) {
		out = append(out, found{at, string(payload)})
	}
	return out
}

func texts(list [][]byte) []string {
	var out []string
	for _, b := range list {
		out = append(out, string(b))
	}
	return out
}

func payloadsOf(list []found) []string {
	var out []string
	for _, f := range list {
		out = append(out, f.payload)
	}
	return out
}

// short makes bytes fit for a message.
func short(b []byte) []byte {
	return b[:min(len(b), 60)]
}

// checkReads holds what all three calls read against what is wanted.
func checkReads(t *testing.T, what string, b []byte, want []found, end int) {
	t.Helper()
	if got := gone(b); !slices.Equal(got, want) {
		t.Fatalf("%s: Frames of %d bytes, % x: %d frames, not %d, or others", what, len(b), short(b), len(got), len(want))
	}
	if got := texts(frame.All(b)); !slices.Equal(got, payloadsOf(want)) {
		t.Fatalf("%s: All of %d bytes, % x: %d payloads, not %d, or others", what, len(b), short(b), len(got), len(want))
	}
	if got := frame.End(b); got != end {
		t.Fatalf("%s: End of %d bytes, % x: %d, not %d", what, len(b), short(b), got, end)
	}
}

// checkAsModel holds what all three calls read against the model, and answers how many frames there are.
func checkAsModel(t *testing.T, what string, b []byte) int {
	t.Helper()
	want, end := modelGood(b)
	checkReads(t, what, b, want, end)
	return len(want)
}

func randomBytes(r *rand.Rand, n int) []byte {
	b := make([]byte, n)
	r.Read(b)
	return b
}

// somePayload draws a payload, often one that looks like a frame or the beginning of one.
func somePayload(r *rand.Rand) []byte {
	switch r.Intn(5) {
	case 0:
		return nil
	case 1:
		return modelEncode(randomBytes(r, r.Intn(4)))
	case 2:
		return make([]byte, r.Intn(12))
	}
	return randomBytes(r, r.Intn(30))
}

// edgePayloads: each length up to some hundred, and those at which a further byte of the length is needed, or no more are allowed.
func edgePayloads() [][]byte {
	r := rand.New(rand.NewSource(1))
	out := [][]byte{nil, {}, make([]byte, 4), make([]byte, 8), make([]byte, 256), bytes.Repeat([]byte{0xff}, 300)}
	for c := range 256 {
		out = append(out, []byte{byte(c)})
	}
	for n := range 300 {
		out = append(out, randomBytes(r, n))
	}
	for _, n := range []int{511, 512, 1<<16 - 1, 1 << 16, 1<<16 + 1, 1 << 17, 1<<20 - 1, 1 << 20} {
		out = append(out, randomBytes(r, n))
	}
	return out
}
