package crc_test

import (
	"bytes"
	"math/rand"
	"testing"

	"fletch/crc"
)

// damaged answers a copy of b in which the bits of by are turned from the place on.
func damaged(b []byte, at int, by uint32) []byte {
	out := bytes.Clone(b)
	for i := 0; i < 4 && at+i < len(out); i++ {
		out[at+i] ^= byte(by >> (8 * i))
	}
	return out
}

// P2.3: each change of one byte, at each place, is told.
func TestOneByteChanged(t *testing.T) {
	r := rand.New(rand.NewSource(7))
	for _, n := range []int{1, 2, 3, 4, 5, 17, 64} {
		b := randomBytes(r, n)
		sum := crc.Sum(b)
		for at := range n {
			for by := 1; by < 256; by++ {
				if crc.Sum(damaged(b, at, uint32(by))) == sum {
					t.Fatalf("of %d bytes the one at %d was changed by %02x: the same sum", n, at, by)
				}
			}
		}
	}
}

// P2.3: changes within two, three and four neighbouring bytes are told, at the ends of the list too.
func TestNeighboursChanged(t *testing.T) {
	r := rand.New(rand.NewSource(8))
	for range 60000 {
		b := randomBytes(r, 1+r.Intn(40))
		at := r.Intn(len(b))
		bad := damaged(b, at, r.Uint32()>>r.Intn(32)<<r.Intn(32))
		if same := bytes.Equal(b, bad); (crc.Sum(b) == crc.Sum(bad)) != same {
			t.Fatalf("% x and % x: the sums %08x and %08x", b, bad, crc.Sum(b), crc.Sum(bad))
		}
	}
}

// P2.3: the sum is linear in the bits that are turned, so no damage to four neighbours goes untold
// just if the 32 sums' changes by one bit each can't make one another up.
func TestEveryDamageToFour(t *testing.T) {
	r := rand.New(rand.NewSource(9))
	for n := 4; n < 60; n++ {
		b := randomBytes(r, n)
		for at := range n - 3 {
			if rank := rankOf(changes(b, at)); rank != 32 {
				t.Fatalf("of %d bytes, four from %d on: the changes have the rank %d", n, at, rank)
			}
		}
	}
}

// changes answers what each bit of four bytes makes of the sum when it is turned.
func changes(b []byte, at int) []uint32 {
	var out []uint32
	for bit := range 32 {
		out = append(out, crc.Sum(b)^crc.Sum(damaged(b, at, 1<<bit)))
	}
	return out
}

func rankOf(rows []uint32) int {
	rank := 0
	for bit := range 32 {
		for i := rank; i < len(rows); i++ {
			if rows[i]>>bit&1 == 0 {
				continue
			}
			rows[rank], rows[i] = rows[i], rows[rank]
			for j := rank + 1; j < len(rows); j++ {
				if rows[j]>>bit&1 == 1 {
					rows[j] ^= rows[rank]
				}
			}
			rank++
			break
		}
	}
	return rank
}

// P2.3: Add and Parts tell it too, from any sum on and wherever the parts are cut.
func TestDamageToldByAll(t *testing.T) {
	r := rand.New(rand.NewSource(10))
	for _, sum := range sampleSums() {
		for range 40 {
			b := randomBytes(r, 1+r.Intn(30))
			bad := damaged(b, r.Intn(len(b)), r.Uint32()|1) // its first byte is another one, so the list is
			cut := r.Intn(len(b) + 1)
			if crc.Add(sum, b) == crc.Add(sum, bad) {
				t.Fatalf("Add(%08x) of % x and % x is the same", sum, b, bad)
			}
			if crc.Parts(b[:cut], b[cut:]) == crc.Parts(bad[:cut], bad[cut:]) {
				t.Fatalf("Parts of % x and % x, cut at %d, is the same", b, bad, cut)
			}
		}
	}
}
