package disk_test

import (
	"bytes"
	"math/rand"
	"testing"

	"fletch/disk"
)

const marked = 0xee

// roomy answers b with spare room behind it that holds marks.
func roomy(b string) []byte {
	room := bytes.Repeat([]byte{marked}, len(b)+64)
	return room[:copy(room, b)]
}

// scribble writes into bytes and their spare room.
func scribble(b []byte) {
	b = b[:cap(b)]
	for i := range b {
		b[i] = 0x21
	}
}

func checkUntouched(t *testing.T, what string, b []byte, want string) {
	t.Helper()
	if string(b) != want {
		t.Errorf("%s: what was handed in is %q now, not %q", what, b, want)
	}
	for _, c := range b[len(b):cap(b)] {
		if c != marked {
			t.Errorf("%s: the spare room was written to", what)
			return
		}
	}
}

// P5.4: what is handed in isn't changed, spare room included, by the call or by any behind it.
func TestBytesStayAsTheyWere(t *testing.T) {
	for _, in := range []string{"", "a", "some bytes"} {
		a, b, c := roomy(in), roomy("b"+in), roomy("c"+in)
		d := disk.Load(a, b)
		d.Append(0, c)
		d.Append(1, c)
		d.Sync(0)
		d.Truncate(0, len(in))
		d.Append(0, []byte("behind it"))
		d.Off(3)
		d.On()
		d.Truncate(1, 0)
		d.Append(1, []byte("from the front"))
		d.Arm(1, 3)
		d.Append(0, c)
		checkUntouched(t, "Load, file 0", a, in)
		checkUntouched(t, "Load, file 1", b, "b"+in)
		checkUntouched(t, "Append", c, "c"+in)
	}
}

// P5.4: nor is it kept: what is written to it behind the call isn't seen.
func TestNothingIsKept(t *testing.T) {
	a, b := roomy("first"), roomy("other")
	d := disk.Load(a, b)
	scribble(a)
	scribble(b)
	checkFile(t, d, 0, "first")
	checkFile(t, d, 1, "other")
	e := disk.New()
	c := roomy("more")
	for f := range 2 {
		d.Append(f, c)
		e.Append(f, c)
	}
	scribble(c)
	for f, was := range []string{"first", "other"} {
		checkFile(t, d, f, was+"more")
		checkFile(t, e, f, "more")
		d.Sync(f)
		checkSafe(t, d, f, was+"more")
	}
}

// P5.4: one list handed in for both files, or for two disks, makes files that are apart.
func TestOneListTwice(t *testing.T) {
	a := roomy("ab")
	x, y := disk.Load(a, a), disk.Load(a, a)
	x.Append(0, []byte("cd"))
	x.Truncate(1, 1)
	x.Append(1, []byte("z"))
	y.Append(0, []byte("e"))
	checkFile(t, x, 0, "abcd")
	checkFile(t, x, 1, "az")
	checkFile(t, y, 0, "abe")
	checkFile(t, y, 1, "ab")
}

// P5.4: what Read and Safe answer is the caller's, its spare room too: no file and no other answer sees what is written there.
func TestAnswersAreNewMemory(t *testing.T) {
	d := disk.Load([]byte("safe"), nil)
	d.Append(0, []byte("waits"))
	for range 3 {
		one, _ := d.Read(0)
		two, _ := d.Read(0)
		three, four := d.Safe(0), d.Safe(0)
		scribble(one)
		scribble(three)
		if string(two) != "safewaits" || string(four) != "safe" {
			t.Errorf("answers share memory: %q, %q", two, four)
		}
		scribble(append(two, "behind"...))
		scribble(append(four, "behind"...))
		checkFile(t, d, 0, "safewaits")
		checkSafe(t, d, 0, "safe")
	}
	d.Off(2)
	scribble(d.Safe(0))
	checkSafe(t, d, 0, "safewa")
}

// P5.4: an answer stays what it was, whatever becomes of the file.
func TestAnswersStay(t *testing.T) {
	d := disk.Load([]byte("abcdefgh"), nil)
	d.Append(0, []byte("ijkl"))
	b, _ := d.Read(0)
	safe := d.Safe(0)
	d.Truncate(0, 2)
	d.Append(0, []byte("XYZXYZXYZXYZ"))
	d.Off(4)
	d.On()
	d.Truncate(0, 0)
	d.Append(0, []byte("0123456789"))
	if string(b) != "abcdefghijkl" || string(safe) != "abcdefgh" {
		t.Errorf("the answers are %q, %q now", b, safe)
	}
}

// P5.4: bytes that were lost or taken off aren't seen again, whatever is put in their place.
func TestLostBytesAreGone(t *testing.T) {
	d := disk.New()
	d.Append(0, []byte("abcdef"))
	d.Off(2)
	d.On()
	d.Append(0, []byte("X"))
	checkFile(t, d, 0, "abX")
	d.Append(0, nil)
	checkFile(t, d, 0, "abX")
	d.Sync(0)
	d.Truncate(0, 1)
	d.Append(0, []byte("Y"))
	checkSafe(t, d, 0, "a")
	checkFile(t, d, 0, "aY")
}

// P5.4, P1: what is done to one disk isn't seen in another.
func TestTwoDisks(t *testing.T) {
	r := rand.New(rand.NewSource(4))
	x, m := disk.New(), &model{}
	y, n := disk.New(), &model{}
	for range 3000 {
		if r.Intn(2) == 0 {
			x, m, y, n = y, n, x, m
		}
		c := anyCall(r, m)
		do(t, x, m, c, []call{c})
		checkDisk(t, x, m, []call{c})
		checkDisk(t, y, n, []call{c})
	}
}

// P5.4, P1: so disks of several goroutines, one each, may be used at one time.
func TestDisksAtOneTime(t *testing.T) {
	done := make(chan string)
	for range 8 {
		go func() {
			d := disk.Load([]byte("same"), []byte("same"))
			for i := range 2000 {
				d.Append(i%2, []byte{byte(i)})
				d.Sync(i % 2)
			}
			d.Arm(3, 1)
			d.Append(0, []byte("last"))
			d.Sync(1)
			d.Sync(0)
			done <- string(d.Safe(0)) + string(d.Safe(1))
		}()
	}
	first := <-done
	for range 7 {
		if got := <-done; got != first {
			t.Errorf("disks that were used alike differ: %q, %q", first, got)
		}
	}
	if len(first) != 2*4+2000+1 {
		t.Errorf("%d bytes", len(first))
	}
}
