package crc_test

import (
	"bytes"
	"math/rand"
)

// modelAdd goes bit by bit, as the chapter says it.
func modelAdd(sum uint32, b []byte) uint32 {
	r := sum ^ 0xffffffff
	for _, c := range b {
		r ^= uint32(c)
		for range 8 {
			out := r & 1
			r >>= 1
			if out == 1 {
				r ^= 0xedb88320
			}
		}
	}
	return r ^ 0xffffffff
}

func randomBytes(r *rand.Rand, n int) []byte {
	b := make([]byte, n)
	r.Read(b)
	return b
}

// sampleLists: each single byte, rows of one byte, and bytes of any kind in many lengths.
func sampleLists() [][]byte {
	out := [][]byte{nil, {}}
	for c := range 256 {
		out = append(out, []byte{byte(c)})
	}
	for n := range 20 {
		for _, c := range []byte{0x00, 0x0f, 0x80, 0xf0, 0xff} {
			out = append(out, bytes.Repeat([]byte{c}, n))
		}
	}
	r := rand.New(rand.NewSource(2))
	for n := range 300 {
		out = append(out, randomBytes(r, n))
	}
	return append(out, randomBytes(r, 1<<20))
}

// sampleSums: none, all bits, each bit alone and each alone missing, any.
func sampleSums() []uint32 {
	out := []uint32{0, 0xffffffff, 0xcbf43926, 0xedb88320}
	for i := range 32 {
		out = append(out, 1<<i, ^uint32(1<<i))
	}
	r := rand.New(rand.NewSource(3))
	for range 40 {
		out = append(out, r.Uint32())
	}
	return out
}
