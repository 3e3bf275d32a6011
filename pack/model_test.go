package pack_test

import (
	"bytes"
	"math"
	"math/rand"
	"strconv"
	"strings"
)

// modelBytes makes a number's bytes from its binary digits, by another way than the package goes.
func modelBytes(x int) []byte {
	digits := strconv.FormatInt(int64(max(x, 0)), 2)
	if rest := len(digits) % 7; rest > 0 {
		digits = strings.Repeat("0", 7-rest) + digits
	}
	var out []byte
	for len(digits) > 0 {
		cut := len(digits) - 7
		seven, _ := strconv.ParseUint(digits[cut:], 2, 8)
		if cut > 0 {
			seven += 128
		}
		out = append(out, byte(seven))
		digits = digits[:cut]
	}
	return out
}

// modelTake tries each length: what is taken is a number's own bytes and nothing else.
func modelTake(b []byte) (int, int) {
	for n := 1; n <= 9 && n <= len(b); n++ {
		x, unit := uint64(0), uint64(1)
		for _, c := range b[:n] {
			x += uint64(c%128) * unit
			unit *= 128
		}
		if bytes.Equal(modelBytes(int(x)), b[:n]) {
			return int(x), n
		}
	}
	return 0, 0
}

type placed struct{ at, x int }

func modelNumbers(b []byte) []placed {
	var out []placed
	for at := 0; ; {
		x, n := modelTake(b[at:])
		if n == 0 {
			return out
		}
		out = append(out, placed{at, x})
		at += n
	}
}

// edgeNumbers: around each power of two, so around each change of the number of bytes.
func edgeNumbers() []int {
	out := []int{0, 3, 300, math.MaxInt - 1, math.MaxInt}
	for k := range 63 {
		out = append(out, 1<<k-1, 1<<k, 1<<k+1)
	}
	return out
}

// edgeBytes: byte lists on both sides of each border of what begins with a number.
func edgeBytes() [][]byte {
	out := [][]byte{nil, {}}
	for a := range 256 {
		out = append(out, []byte{byte(a)})
		for b := range 256 {
			out = append(out, []byte{byte(a), byte(b)})
		}
	}
	for heads := 2; heads <= 11; heads++ {
		for _, head := range []byte{0x80, 0x81, 0xff} {
			many := bytes.Repeat([]byte{head}, heads)
			out = append(out, many)
			for _, last := range []byte{0, 1, 0x40, 0x7f, 0x80, 0xff} {
				one := append(bytes.Clone(many), last)
				out = append(out, one, append(bytes.Clone(one), 0), append(bytes.Clone(one), 5, 0x80))
			}
		}
	}
	return out
}

// someBytes: numbers of many sizes behind each other, with a byte turned here and there.
func someBytes(r *rand.Rand) []byte {
	var out []byte
	for range r.Intn(8) {
		out = append(out, modelBytes(int(r.Int63()>>r.Intn(63)))...)
	}
	for range r.Intn(3) {
		out = append(out, byte(r.Intn(256)))
	}
	if len(out) > 0 && r.Intn(3) == 0 {
		out[r.Intn(len(out))] = byte(r.Intn(256))
	}
	return out
}
