package vault_test

import (
	"encoding/binary"
	"hash/crc32"
	"math"
	"math/rand"
	"strings"
	"testing"

	"fletch/api"
)

// someFiles are files that count, and such as don't, with and without something behind their good frames.
func someFiles() []string {
	good := file(2, "snap", "a", "", "bc")
	spoilt := []byte(good)
	spoilt[len(file(2, "snap", "a"))+3] ^= 1
	return []string{
		"", "x", "seven b", strings.Repeat("\x00", 40), framed(""), framed("sevenby") + framed("a"),
		file(0, "none", "a"), file(1, ""), file(1, "", ""), file(1, "s", "a") + "tail", file(2, "other"),
		good, good[:len(good)-1], good[:len(good)-10] + "x", good[1:], string(spoilt), good + framed("more")[:7],
		file(3, "s")[:16], file(3, "t", file(9, "inside")), file(300, "u", "v"),
		file(lastGen, "end", "z"), file(lastGen, "end") + "\x00", file(lastGen+1, "beyond", "a"), file(math.MaxUint64, "beyond"),
	}
}

// someDisks are disks with two of these files, all safe, or with waiting bytes in one file or both.
func someDisks() []bytesOf {
	var out []bytesOf
	files := someFiles()
	for i, zero := range files {
		for j, one := range files {
			var b bytesOf
			b[0].safe, b[1].safe = zero, one
			out = append(out, b)
			cut, other := (i+2*j)%(len(zero)+1), (3*i+j)%(len(one)+1)
			b[0].safe, b[0].waits = zero[:cut], zero[cut:]
			out = append(out, b)
			b[1].safe, b[1].waits = one[:other], one[other:]
			out = append(out, b)
		}
	}
	return out
}

func keeps() []int {
	return []int{math.MinInt, -1, 0, 1, 5, 8, 17, 30, math.MaxInt}
}

// P7.1, P7.3: of every two files Open answers, and makes of the disk, what the chapter says; the second time it makes one raw write and answers the same.
func TestEveryDisk(t *testing.T) {
	for _, b := range someDisks() {
		x := twinOf(t, b, 0, 0, "handed")
		writes := x.d.Writes()
		x.open(t, "another")
		if x.d.Writes() != writes+1 {
			t.Fatalf("%v: the second Open of %q makes %d raw writes", x.done, b, x.d.Writes()-writes)
		}
		x.append(t, "record")
		x.checkpoint(t, "next")
		x.append(t, "")
		x.open(t, "a third")
	}
}

// P7.1, P7.2: wherever the power goes in Open, the disk is what the chapter makes of it, and opens anew.
func TestEveryDiskLosingPower(t *testing.T) {
	for i, b := range someDisks() {
		for n := 1; n <= 4; n++ {
			keep := keeps()[(i+n)%len(keeps())]
			x := twinOf(t, b, n, keep, "handed")
			x.on()
			x.open(t, "handed")
			x.append(t, "record")
			x.open(t, "handed")
		}
	}
}

// P7.1: calls in any order, the power going in any raw write or between two calls.
func TestAnyOrder(t *testing.T) {
	r := rand.New(rand.NewSource(1))
	disks := someDisks()
	opened, refused := 0, 0
	for range 4000 {
		x := twinOf(t, disks[r.Intn(len(disks))], 0, 0, "s")
		for range 40 {
			switch e := x.any(t, r); e {
			case api.OK:
				opened++
			default:
				refused++
			}
		}
	}
	if opened < 40000 || refused < 10000 {
		t.Errorf("%d calls were done and %d refused: too few of a kind", opened, refused)
	}
}

// any does a call that is drawn.
func (x *twin) any(t *testing.T, r *rand.Rand) api.Errno {
	t.Helper()
	switch r.Intn(12) {
	case 0, 1, 2, 3:
		return x.append(t, anyText(r))
	case 4, 5:
		return x.checkpoint(t, anyText(r))
	case 6, 7:
		_, _, e := x.open(t, anyText(r))
		return e
	case 8:
		x.arm(r.Intn(6), keeps()[r.Intn(len(keeps()))])
	case 9:
		x.off(keeps()[r.Intn(len(keeps()))])
	default:
		x.on()
	}
	x.check(t)
	return api.OK
}

func anyText(r *rand.Rand) string {
	return "the text of a record or of a snapshot"[r.Intn(8):][:r.Intn(20)]
}

// P7.1, P1: no bytes at all make a call panic or answer otherwise: what is drawn, with right sums, turned and cut.
func TestAnyBytes(t *testing.T) {
	r := rand.New(rand.NewSource(2))
	for range 20000 {
		var b bytesOf
		for f := range b {
			all := anyFile(r)
			cut := r.Intn(len(all) + 1)
			b[f].safe, b[f].waits = all[:cut], all[cut:]
		}
		x := twinOf(t, b, r.Intn(6), keeps()[r.Intn(len(keeps()))], anyText(r))
		x.on()
		x.open(t, anyText(r))
		x.append(t, anyText(r))
		x.open(t, anyText(r))
	}
}

// anyFile draws a file; most have a good frame at the front.
func anyFile(r *rand.Rand) string {
	var out string
	if r.Intn(5) > 0 {
		generation := r.Uint64() >> (r.Intn(65))
		if r.Intn(3) == 0 {
			generation = uint64(r.Intn(3))
		}
		first := string(binary.LittleEndian.AppendUint64(nil, generation))
		if r.Intn(8) == 0 {
			first = first[:r.Intn(8)]
		} else {
			first += anyText(r)
		}
		out = framed(first)
	}
	for range r.Intn(4) {
		out += framed(anyText(r))
	}
	out += anyText(r)
	if r.Intn(4) == 0 && out != "" {
		at := r.Intn(len(out))
		out = out[:at] + string([]byte{out[at] ^ 1<<r.Intn(8)}) + out[at+1:]
	}
	return out[:len(out)-r.Intn(min(len(out), 3)+1)]
}

// P7.1: a first frame that is too long is none, though its sum is right: the file doesn't count.
func TestTooLongAFirstFrame(t *testing.T) {
	payload := append(binary.LittleEndian.AppendUint64(nil, 5), make([]byte, most-7)...)
	length := binary.LittleEndian.AppendUint32(nil, most+1)
	sum := crc32.ChecksumIEEE(append(length[:4:4], payload...))
	long := string(binary.LittleEndian.AppendUint32(length, sum)) + string(payload)
	var b bytesOf
	b[0].safe, b[1].safe = long, file(1, "one", "o")
	x := twinOf(t, b, 0, 0, "handed")
	if s, records, _ := x.open(t, "handed"); s != "one" || len(records) != 1 {
		t.Errorf("%q, %q", s, records)
	}
	checkFiles(t, x.d, "", file(1, "one", "o"))
}
