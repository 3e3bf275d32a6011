package disk_test

import (
	"fmt"
	"math"
	"math/rand"
	"strings"
	"testing"

	"fletch/api"
	"fletch/disk"
)

// model is a disk as texts: of each file the safe one and the waiting one. The armed write is known by its number among all.
type model struct {
	safe, waiting [2]string
	off           bool
	writes        int
	armed         float64 // so the greatest numbers have room; below 1: none
	keep          int
}

func (m *model) whole(f int) string {
	return m.safe[f] + m.waiting[f]
}

func (m *model) goes(keep int) {
	if m.off {
		return
	}
	for f := range 2 {
		var kept strings.Builder
		for i, c := range []byte(m.waiting[f]) {
			if i < keep {
				kept.WriteByte(c)
			}
		}
		m.safe[f] += kept.String()
		m.waiting[f] = ""
	}
	m.off, m.armed = true, 0
}

// strikes counts a raw write and answers whether the power goes in it.
func (m *model) strikes() bool {
	m.writes++
	return m.armed == float64(m.writes)
}

func (m *model) append(f int, b string) api.Errno {
	switch {
	case f != 0 && f != 1:
		return api.ErrArg
	case m.off:
		return api.ErrDown
	}
	m.waiting[f] += b
	if m.strikes() {
		m.goes(m.keep)
		return api.ErrDown
	}
	return api.OK
}

func (m *model) sync(f int) api.Errno {
	switch {
	case f != 0 && f != 1:
		return api.ErrArg
	case m.off:
		return api.ErrDown
	case m.strikes():
		m.goes(m.keep)
		return api.ErrDown
	}
	m.safe[f], m.waiting[f] = m.whole(f), ""
	return api.OK
}

func (m *model) truncate(f int, n int) api.Errno {
	switch {
	case f != 0 && f != 1:
		return api.ErrArg
	case n < 0 || n > len(m.whole(f)):
		return api.ErrArg
	case m.off:
		return api.ErrDown
	case m.strikes():
		m.goes(m.keep)
		return api.ErrDown
	}
	if safe := m.safe[f]; n <= len(safe) {
		m.safe[f], m.waiting[f] = safe[:n], ""
	} else {
		m.waiting[f] = m.waiting[f][:n-len(safe)]
	}
	return api.OK
}

func (m *model) read(f int) (string, api.Errno) {
	switch {
	case f != 0 && f != 1:
		return "", api.ErrArg
	case m.off:
		return "", api.ErrDown
	}
	return m.whole(f), api.OK
}

func (m *model) arm(n int, keep int) {
	m.armed, m.keep = 0, keep
	if n >= 1 {
		m.armed = float64(m.writes) + float64(n)
	}
}

// call is one call that may change a disk, by the name of its function.
type call struct {
	name string
	f    int
	n    int // the bytes that Truncate leaves, the raw write that Arm names
	keep int
	b    string
}

func (c call) String() string {
	switch c.name {
	case "Append":
		return fmt.Sprintf("Append(%d, %q)", c.f, c.b)
	case "Sync":
		return fmt.Sprintf("Sync(%d)", c.f)
	case "Truncate":
		return fmt.Sprintf("Truncate(%d, %d)", c.f, c.n)
	case "Arm":
		return fmt.Sprintf("Arm(%d, %d)", c.n, c.keep)
	case "Off":
		return fmt.Sprintf("Off(%d)", c.keep)
	}
	return c.name + "()"
}

func (c call) onDisk(d *disk.Disk) api.Errno {
	switch c.name {
	case "Append":
		return d.Append(c.f, []byte(c.b))
	case "Sync":
		return d.Sync(c.f)
	case "Truncate":
		return d.Truncate(c.f, c.n)
	case "Arm":
		d.Arm(c.n, c.keep)
	case "Off":
		d.Off(c.keep)
	case "On":
		d.On()
	}
	return api.OK
}

func (c call) onModel(m *model) api.Errno {
	switch c.name {
	case "Append":
		return m.append(c.f, c.b)
	case "Sync":
		return m.sync(c.f)
	case "Truncate":
		return m.truncate(c.f, c.n)
	case "Arm":
		m.arm(c.n, c.keep)
	case "Off":
		m.goes(c.keep)
	case "On":
		m.off = false
	}
	return api.OK
}

// noFiles: numbers that are no files.
func noFiles() []int {
	return []int{math.MinInt, -2, -1, 2, 3, math.MaxInt}
}

// checkDisk asks for all that the disk can tell; done says what was done to it.
func checkDisk(t *testing.T, d *disk.Disk, m *model, done []call) {
	t.Helper()
	if d.Down() != m.off || d.Writes() != m.writes {
		t.Fatalf("%v: Down %v, Writes %d, not %v, %d", done, d.Down(), d.Writes(), m.off, m.writes)
	}
	for f := range 2 {
		checkRead(t, d, m, f, done)
		if got := string(d.Safe(f)); got != m.safe[f] {
			t.Fatalf("%v: Safe(%d): %q, not %q", done, f, got, m.safe[f])
		}
	}
	for _, f := range noFiles() {
		checkRead(t, d, m, f, done)
		if got := d.Safe(f); len(got) != 0 {
			t.Fatalf("%v: Safe(%d): %q", done, f, got)
		}
	}
}

func checkRead(t *testing.T, d *disk.Disk, m *model, f int, done []call) {
	t.Helper()
	want, e := m.read(f)
	if got, gotE := d.Read(f); string(got) != want || gotE != e {
		t.Fatalf("%v: Read(%d): %q, %d, not %q, %d", done, f, got, gotE, want, e)
	}
}

// do does the call to the disk and the model, and holds their answers against each other.
func do(t *testing.T, d *disk.Disk, m *model, c call, done []call) {
	t.Helper()
	if got, want := c.onDisk(d), c.onModel(m); got != want {
		t.Fatalf("%v: the last one answers %d, not %d", done, got, want)
	}
}

// play does the calls, one behind the other, to a new disk and a new model, and looks at them behind each.
func play(t *testing.T, calls []call) (*disk.Disk, *model) {
	t.Helper()
	d, m := disk.New(), &model{}
	checkDisk(t, d, m, nil)
	for i, c := range calls {
		do(t, d, m, c, calls[:i+1])
		checkDisk(t, d, m, calls[:i+1])
	}
	return d, m
}

// anyCall draws a call; most can be done, some are edges or name no file.
func anyCall(r *rand.Rand, m *model) call {
	f := r.Intn(2)
	if r.Intn(20) == 0 {
		f = noFiles()[r.Intn(len(noFiles()))]
	}
	keeps := []int{math.MinInt, -1, 0, 1, 2, 3, 5, 9, math.MaxInt}
	keep := keeps[r.Intn(len(keeps))]
	switch r.Intn(14) {
	case 0, 1, 2, 3:
		return call{name: "Append", f: f, b: "abcdefghijklmnopqrstuvwxyz"[r.Intn(13):][:r.Intn(7)]}
	case 4, 5:
		return call{name: "Sync", f: f}
	case 6, 7:
		return call{name: "Truncate", f: f, n: anyLength(r, m.whole(f&1))}
	case 8, 9:
		ns := []int{math.MinInt, -1, 0, 1, 2, 3, 4, 6, math.MaxInt - 1, math.MaxInt}
		return call{name: "Arm", n: ns[r.Intn(len(ns))], keep: keep}
	case 10:
		return call{name: "Off", keep: keep}
	}
	return call{name: "On"}
}

// anyLength draws a length at, below or above that of the text.
func anyLength(r *rand.Rand, text string) int {
	switch r.Intn(12) {
	case 0:
		return math.MinInt
	case 1:
		return -1
	case 2:
		return len(text) + 1
	case 3:
		return math.MaxInt
	}
	return r.Intn(len(text) + 1)
}
