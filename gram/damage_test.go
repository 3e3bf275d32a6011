package gram_test

import (
	"math/rand"
	"testing"

	"fletch/api"
	"fletch/gram"
)

// checkRefused turns the bits of by, from the place on; what then comes must be refused by its sum, if bits were turned.
func checkRefused(t *testing.T, whole string, at int, by uint32) {
	t.Helper()
	bad := []byte(whole)
	for i := 0; i < 4 && at+i < len(bad); i++ {
		bad[at+i] ^= byte(by >> (8 * i))
	}
	if string(bad) == whole {
		return
	}
	if g, e := gram.Decode(bad); e != api.ErrSum || g != (api.Gram{}) {
		t.Fatalf("Decode(% x), which was % x: %+v, %d", bad, whole, g, e)
	}
}

// P9.3: each turn of one byte, and in the shorter datagrams of two neighbours, at each place, the sum's too, is refused.
func TestOneByteAndTwoTurned(t *testing.T) {
	for _, c := range known {
		whole := c.fields + c.sum
		for at := range whole {
			for by := uint32(1); by < 1<<16; by++ {
				if by < 1<<8 || len(whole) < 14 {
					checkRefused(t, whole, at, by)
				}
			}
		}
	}
}

// P9.3: turns within three and four neighbours are refused, at each place, the sum's too.
func TestNeighboursTurned(t *testing.T) {
	r := rand.New(rand.NewSource(6))
	for range 20000 {
		b, e := gram.Encode(someGram(r))
		if e != api.OK {
			t.Fatalf("Encode: %d", e)
		}
		for at := range b {
			checkRefused(t, string(b), at, r.Uint32())
			checkRefused(t, string(b), at, r.Uint32()&r.Uint32()&r.Uint32()|1<<31)
		}
	}
}

// P9.3: a row of turned bits of any length up to 32, all of them or just its ends, is refused.
func TestRowsOfBitsTurned(t *testing.T) {
	for _, c := range known {
		whole := c.fields + c.sum
		for at := range whole {
			for low := range 32 {
				for high := low; high < 32; high++ {
					ends := uint32(1)<<low | uint32(1)<<high
					checkRefused(t, whole, at, ends)
					checkRefused(t, whole, at, ends|(1<<high-1<<low))
				}
			}
		}
	}
}

// P9.3: four neighbours that became those of another datagram don't make it one: two datagrams are never so alike.
func TestFourOfAnother(t *testing.T) {
	r := rand.New(rand.NewSource(7))
	for range 20000 {
		b, _ := gram.Encode(someGram(r))
		other, _ := gram.Encode(someGram(r))
		for at := 0; at < min(len(b), len(other)); at++ {
			bad := append([]byte{}, b...)
			copy(bad[at:min(at+4, len(bad))], other[at:])
			if string(bad) == string(b) {
				continue
			}
			if g, e := gram.Decode(bad); e != api.ErrSum || g != (api.Gram{}) {
				t.Fatalf("Decode(% x), which was % x: %+v, %d", bad, b, g, e)
			}
		}
	}
}
