package disk_test

import (
	"math"
	"math/rand"
	"testing"

	"fletch/api"
	"fletch/disk"
)

func checkErr(t *testing.T, what string, got, want api.Errno) {
	t.Helper()
	if got != want {
		t.Errorf("%s: %d, not %d", what, got, want)
	}
}

func checkFile(t *testing.T, d *disk.Disk, f int, want string) {
	t.Helper()
	if got, e := d.Read(f); string(got) != want || e != api.OK {
		t.Errorf("Read(%d): %q, %d, not %q", f, got, e, want)
	}
}

func checkSafe(t *testing.T, d *disk.Disk, f int, want string) {
	t.Helper()
	if got := d.Safe(f); string(got) != want {
		t.Errorf("Safe(%d): %q, not %q", f, got, want)
	}
}

// P5.1: the chapter's first example: how much of what waits is kept.
func TestExampleOff(t *testing.T) {
	for _, c := range []struct {
		keep int
		want string
	}{{2, "abcd"}, {-1, "ab"}, {0, "ab"}, {1, "abc"}, {3, "abcde"}, {4, "abcde"}, {math.MaxInt, "abcde"}, {math.MinInt, "ab"}} {
		d := disk.New()
		d.Append(0, []byte("ab"))
		d.Sync(0)
		d.Append(0, []byte("cde"))
		d.Off(c.keep)
		checkSafe(t, d, 0, c.want)
		d.On()
		checkFile(t, d, 0, c.want)
	}
}

// P5.1: the chapter's second example: the power goes in an armed write.
func TestExampleArm(t *testing.T) {
	for _, c := range []struct {
		keep int
		want string
	}{{9, "xy"}, {1, "x"}, {2, "xy"}, {0, ""}, {-1, ""}} {
		d := disk.New()
		d.Arm(2, c.keep)
		checkErr(t, "Append", d.Append(1, []byte("xy")), api.OK)
		checkErr(t, "Sync", d.Sync(1), api.ErrDown)
		if !d.Down() || d.Writes() != 2 {
			t.Errorf("Down %v, Writes %d", d.Down(), d.Writes())
		}
		d.On()
		checkFile(t, d, 1, c.want)
	}
}

// P5.1: the chapter's third example: refusals.
func TestExampleRefusals(t *testing.T) {
	d := disk.New()
	checkErr(t, "Append(2)", d.Append(2, []byte("a")), api.ErrArg)
	d.Append(0, []byte("abcd"))
	checkErr(t, "Truncate(0, 5)", d.Truncate(0, 5), api.ErrArg)
	d.Off(0)
	checkErr(t, "Append(0) without power", d.Append(0, []byte("a")), api.ErrDown)
	checkErr(t, "Append(2) without power", d.Append(2, []byte("a")), api.ErrArg)
}

// P5.1: a new disk is empty, on, not armed, and no raw write has been.
func TestNew(t *testing.T) {
	checkDisk(t, disk.New(), &model{}, nil)
	checkDisk(t, disk.Load(nil, []byte{}), &model{}, nil)
	for range 100 {
		d := disk.New()
		for range 5 {
			checkErr(t, "Sync of a new disk", d.Sync(1), api.OK)
		}
	}
}

// P5.1: what is loaded is safe, each list in its own file.
func TestLoad(t *testing.T) {
	for _, c := range [][2]string{{"ab", "xyz"}, {"", "xyz"}, {"ab", ""}, {"", ""}, {"\x00", "\xff\x00"}} {
		d := disk.Load([]byte(c[0]), []byte(c[1]))
		m := &model{safe: c}
		checkDisk(t, d, m, nil)
		d.Off(-1)
		m.goes(-1)
		checkDisk(t, d, m, nil)
		d.On()
		m.off = false
		checkDisk(t, d, m, nil)
	}
}

// P5.1, P1: every sequence of a few calls answers as the chapter says.
func TestEveryOrder(t *testing.T) {
	most := 4
	if testing.Short() {
		most = 3
	}
	kinds := []call{
		{name: "Append", f: 0, b: "abc"}, {name: "Append", f: 1, b: "xy"}, {name: "Append", f: 1},
		{name: "Sync", f: 0}, {name: "Sync", f: 1},
		{name: "Truncate", f: 0, n: 0}, {name: "Truncate", f: 0, n: 2}, {name: "Truncate", f: 0, n: 4}, {name: "Truncate", f: 1, n: 1},
		{name: "Arm", n: 1, keep: 1}, {name: "Arm", n: 2, keep: 4}, {name: "Arm", n: 0, keep: 4},
		{name: "Off", keep: 0}, {name: "Off", keep: 2}, {name: "On"},
	}
	calls := make([]call, most)
	var from func(at int)
	from = func(at int) {
		if at == most {
			play(t, calls)
			return
		}
		for _, c := range kinds {
			calls[at] = c
			from(at + 1)
		}
	}
	from(0)
}

// P5.1, P1: any calls in any order, at edges too, on new and on loaded disks.
func TestAnyOrder(t *testing.T) {
	r := rand.New(rand.NewSource(1))
	for range 3000 {
		d, m := disk.New(), &model{}
		if r.Intn(3) == 0 {
			d, m = disk.Load([]byte("first"), []byte("other")), &model{safe: [2]string{"first", "other"}}
		}
		var done []call
		for range 60 {
			done = append(done, anyCall(r, m))
			do(t, d, m, done[len(done)-1], done)
			checkDisk(t, d, m, done)
		}
	}
}

// P5.1: Truncate at every length, of a file with safe and waiting bytes, leaves each as safe as it was.
func TestTruncate(t *testing.T) {
	for n := -2; n <= 8; n++ {
		d, m := play(t, []call{
			{name: "Append", f: 1, b: "abc"}, {name: "Sync", f: 1}, {name: "Append", f: 1, b: "defg"},
			{name: "Append", f: 0, b: "long enough"}, {name: "Truncate", f: 1, n: n},
		})
		checkErr(t, "the length", d.Truncate(1, len(m.whole(1))+1), api.ErrArg)
		checkErr(t, "the same length", d.Truncate(1, len(m.whole(1))), api.OK)
		d.Append(1, []byte("new"))
		checkFile(t, d, 1, m.whole(1)+"new")
		checkSafe(t, d, 1, m.safe[1])
		d.Off(1)
		checkSafe(t, d, 1, m.safe[1]+(m.waiting[1] + "new")[:1])
	}
}

// P5.1: the two files are two: what is done to one isn't seen in the other, but for the power.
func TestTwoFiles(t *testing.T) {
	for f := range 2 {
		d := disk.Load([]byte("same"), []byte("same"))
		d.Append(f, []byte("more"))
		checkFile(t, d, 1-f, "same")
		d.Sync(f)
		d.Append(1-f, []byte("waits"))
		d.Sync(f)
		checkSafe(t, d, 1-f, "same")
		d.Truncate(f, 1)
		checkFile(t, d, 1-f, "samewaits")
		checkFile(t, d, f, "s")
		checkSafe(t, d, f, "s")
	}
}

// P5.1, P5.3: errors in their order: no disk, no such file or length, no power.
func TestErrorsInOrder(t *testing.T) {
	d := disk.Load([]byte("four"), nil)
	for range 2 { // with power, and without
		for _, f := range noFiles() {
			checkErr(t, "Append", d.Append(f, nil), api.ErrArg)
			checkErr(t, "Sync", d.Sync(f), api.ErrArg)
			checkErr(t, "Truncate", d.Truncate(f, 0), api.ErrArg)
			_, e := d.Read(f)
			checkErr(t, "Read", e, api.ErrArg)
		}
		for _, n := range []int{math.MinInt, -1, 5, math.MaxInt} {
			checkErr(t, "Truncate", d.Truncate(0, n), api.ErrArg)
		}
		checkErr(t, "Truncate", d.Truncate(1, 1), api.ErrArg)
		d.Off(0)
	}
	for f := range 2 {
		checkErr(t, "Append without power", d.Append(f, []byte("a")), api.ErrDown)
		checkErr(t, "Sync without power", d.Sync(f), api.ErrDown)
		checkErr(t, "Truncate without power", d.Truncate(f, 0), api.ErrDown)
		b, e := d.Read(f)
		checkErr(t, "Read without power", e, api.ErrDown)
		if len(b) != 0 {
			t.Errorf("Read without power: %q", b)
		}
	}
	if d.Writes() != 0 {
		t.Errorf("Writes: %d", d.Writes())
	}
}

// P5.1, P1: of a nil disk nothing is there, and nothing happens.
func TestNilDisk(t *testing.T) {
	var d *disk.Disk
	for range 2 {
		for _, f := range append(noFiles(), 0, 1) {
			checkErr(t, "Append", d.Append(f, []byte("a")), api.ErrNil)
			checkErr(t, "Sync", d.Sync(f), api.ErrNil)
			for _, n := range []int{math.MinInt, -1, 0, 1, math.MaxInt} {
				checkErr(t, "Truncate", d.Truncate(f, n), api.ErrNil)
			}
			b, e := d.Read(f)
			checkErr(t, "Read", e, api.ErrNil)
			if len(b) != 0 || len(d.Safe(f)) != 0 {
				t.Errorf("file %d: %q, %q", f, b, d.Safe(f))
			}
		}
		if d.Down() || d.Writes() != 0 {
			t.Errorf("Down %v, Writes %d", d.Down(), d.Writes())
		}
		d.Arm(1, 1)
		d.Off(1)
		if d.Down() {
			t.Error("Down behind Off")
		}
		d.On()
	}
}

// P5.1, P1: many small appends, each synced, take a moment; and much of one file is read as it was written.
func TestManyWrites(t *testing.T) {
	const n = 300000
	d := disk.New()
	for i := range n {
		if d.Append(0, []byte{byte(i), byte(i >> 8)}) != api.OK || d.Sync(0) != api.OK {
			t.Fatalf("write %d is refused", i)
		}
	}
	if d.Writes() != 2*n {
		t.Errorf("Writes: %d", d.Writes())
	}
	b, _ := d.Read(0)
	if len(b) != 2*n {
		t.Fatalf("%d bytes", len(b))
	}
	for i := range n {
		if b[2*i] != byte(i) || b[2*i+1] != byte(i>>8) {
			t.Fatalf("at %d: %x", 2*i, b[2*i:2*i+2])
		}
	}
	for i := 2*n - 1; i >= 0; i-- {
		if d.Truncate(0, i) != api.OK {
			t.Fatalf("Truncate to %d is refused", i)
		}
	}
	checkFile(t, d, 0, "")
}
