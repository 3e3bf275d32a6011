package vault_test

import (
	"math"
	"slices"
	"strings"
	"testing"

	"fletch/api"
	"fletch/disk"
	"fletch/vault"
)

func checkErr(t *testing.T, what string, got, want api.Errno) {
	t.Helper()
	if got != want {
		t.Errorf("%s: %d, not %d", what, got, want)
	}
}

// checkOpen opens the disk, which must answer this snapshot and these records.
func checkOpen(t *testing.T, d *disk.Disk, handed, snapshot string, records ...string) *vault.Vault {
	t.Helper()
	v, s, r, e := vault.Open(d, []byte(handed))
	if v == nil || e != api.OK || string(s) != snapshot || !slices.Equal(texts(r), records) {
		t.Fatalf("Open: %v, %q, %q, %d, not %q, %q", v, s, r, e, snapshot, records)
	}
	if v.Count() != len(records) {
		t.Errorf("Count: %d, not %d", v.Count(), len(records))
	}
	return v
}

// checkNothing asks for what stands beside an error.
func checkNothing(t *testing.T, d *disk.Disk, snapshot []byte, want api.Errno) {
	t.Helper()
	v, s, r, e := vault.Open(d, snapshot)
	if v != nil || len(s) != 0 || len(r) != 0 || e != want {
		t.Errorf("Open: %v, %q, %q, %d, not %d and nothing else", v, s, r, e, want)
	}
}

func checkFiles(t *testing.T, d *disk.Disk, zero, one string) {
	t.Helper()
	for f, want := range []string{zero, one} {
		if got := string(d.Safe(f)); got != want {
			t.Errorf("file %d: %q, not %q", f, got, want)
		}
	}
}

// P7.1: the chapter's first example.
func TestExampleCheckpoint(t *testing.T) {
	d := disk.New()
	v := checkOpen(t, d, "s", "s")
	if v.Generation() != 1 {
		t.Errorf("Generation: %d", v.Generation())
	}
	checkErr(t, "Append", v.Append([]byte("a")), api.OK)
	checkErr(t, "Append", v.Append([]byte("b")), api.OK)
	v = checkOpen(t, d, "s", "s", "a", "b")
	checkErr(t, "Checkpoint", v.Checkpoint([]byte("t")), api.OK)
	if v.Count() != 0 {
		t.Errorf("Count behind the checkpoint: %d", v.Count())
	}
	checkErr(t, "Append", v.Append([]byte("c")), api.OK)
	v = checkOpen(t, d, "s", "t", "c")
	if v.Generation() != 2 {
		t.Errorf("Generation: %d", v.Generation())
	}
	checkFiles(t, d, "", file(2, "t", "c"))
}

// P7.1, P7.2: the chapter's second example.
func TestExampleAppend(t *testing.T) {
	d := disk.Load(nil, []byte(file(2, "t", "c")))
	v := checkOpen(t, d, "s", "t", "c")
	d.Arm(1, 3)
	checkErr(t, "Append", v.Append([]byte("x")), api.ErrDown)
	checkFiles(t, d, "", file(2, "t", "c")+framed("x")[:3])
	d.On()
	checkOpen(t, d, "s", "t", "c")
	checkFiles(t, d, "", file(2, "t", "c"))
}

// P7.1, P7.2: the chapter's third example.
func TestExampleTruncate(t *testing.T) {
	d := disk.Load(nil, []byte(file(2, "t", "c")))
	v := checkOpen(t, d, "s", "t", "c")
	d.Arm(3, 0)
	checkErr(t, "Checkpoint", v.Checkpoint([]byte("u")), api.ErrDown)
	if v.Generation() != 3 || v.Count() != 0 {
		t.Errorf("Generation %d, Count %d: the other file is the vault's already", v.Generation(), v.Count())
	}
	d.On()
	v = checkOpen(t, d, "s", "u")
	if v.Generation() != 3 {
		t.Errorf("Generation: %d", v.Generation())
	}
	checkFiles(t, d, file(3, "u"), "")
}

// P7.1: the bytes that a vault writes, one by one: the numbers' lowest first, and the sums.
func TestBytes(t *testing.T) {
	d := disk.New()
	v := checkOpen(t, d, "s", "s")
	v.Append([]byte("a"))
	checkFiles(t, d, "\x09\x00\x00\x00\xaf\x78\x96\x56\x01\x00\x00\x00\x00\x00\x00\x00s"+"\x01\x00\x00\x00\x63\x8f\xf7\xc1a", "")
	for _, c := range []struct {
		generation uint64
		bytes      string
	}{
		{0xff, "\xff\x00\x00\x00\x00\x00\x00\x00"},
		{0x100, "\x00\x01\x00\x00\x00\x00\x00\x00"},
		{0x0123456789abcdef, "\xef\xcd\xab\x89\x67\x45\x23\x01"},
		{1 << 62, "\x00\x00\x00\x00\x00\x00\x00\x40"},
	} {
		d := disk.Load([]byte(file(c.generation-1, "old")), nil)
		v := checkOpen(t, d, "s", "old")
		checkErr(t, "Checkpoint", v.Checkpoint([]byte("new")), api.OK)
		checkFiles(t, d, "", framed(c.bytes+"new"))
		if v.Generation() != int(c.generation) {
			t.Errorf("Generation: %d, not %d", v.Generation(), c.generation)
		}
	}
}

// P7.1: the raw writes of each call, as the chapter lists them.
func TestHowManyWrites(t *testing.T) {
	good, old := file(7, "good", "r"), file(6, "old", "q", "p")
	for _, c := range []struct {
		zero, one string
		writes    int
	}{
		{"", "", 2}, {"x", "", 3}, {"", "x", 3}, {"x", "x", 4}, {framed("short"), framed("short"), 4},
		{good, "", 1}, {good, "x", 2}, {good + "x", "", 2}, {good + "x", "x", 3}, {good, old, 2}, {good + "x", old, 3},
		{"", good, 1}, {"x", good, 2}, {"", good + "x", 2}, {"x", good + "x", 3}, {old, good, 2}, {old, good + "x", 3},
	} {
		d := disk.Load([]byte(c.zero), []byte(c.one))
		v, _, _, e := vault.Open(d, nil)
		if e != api.OK || d.Writes() != c.writes {
			t.Fatalf("Open of %q, %q: %d, %d raw writes, not %d", c.zero, c.one, e, d.Writes(), c.writes)
		}
		v.Append(nil)
		if d.Writes() != c.writes+2 {
			t.Errorf("Append makes %d raw writes", d.Writes()-c.writes)
		}
		v.Checkpoint(nil)
		if d.Writes() != c.writes+5 {
			t.Errorf("Checkpoint makes %d raw writes", d.Writes()-c.writes-2)
		}
		v.Count()
		v.Generation()
		if d.Writes() != c.writes+5 {
			t.Error("Count and Generation make raw writes")
		}
	}
}

// P7.1: which file is the vault's.
func TestWhichFile(t *testing.T) {
	long := strings.Repeat("long", 100)
	for _, c := range []struct {
		zero, one  string
		snapshot   string
		records    []string
		generation int
	}{
		{file(1, "zero", "z"), file(1, "one", "o"), "zero", []string{"z"}, 1}, // one generation: number 0
		{file(lastGen, "zero"), file(lastGen, "one", "o"), "zero", nil, lastGen},
		{file(1, "zero", "z"), file(2, "one"), "one", nil, 2},
		{file(2, "zero"), file(1, "one", "o"), "zero", nil, 2},
		{file(256, "zero"), file(255, "one"), "zero", nil, 256}, // the lowest byte comes first
		{file(255, "zero"), file(256, "one"), "one", nil, 256},
		{file(1<<32, "zero"), file(1<<32-1, "one"), "zero", nil, 1 << 32},
		{file(5, "zero"), file(lastGen, "one"), "one", nil, lastGen},
		{file(5, "zero"), file(lastGen+1, "one"), "zero", nil, 5}, // too great a generation doesn't count
		{file(5, "zero"), file(1<<63, "one"), "zero", nil, 5},
		{file(math.MaxUint64, "zero"), file(5, "one"), "one", nil, 5},
		{file(0, "zero"), file(1, "one"), "one", nil, 1}, // nor does 0
		{framed("sevenby"), file(1, "one"), "one", nil, 1},
		{framed("sevenby") + file(9, "zero"), file(1, "one"), "one", nil, 1}, // only the first frame tells a generation
		{file(1, "zero"), framed("") + file(9, "one"), "zero", nil, 1},
		{file(1, "zero"), "x" + file(9, "one"), "zero", nil, 1}, // no good frame at the front
		{file(1, "zero"), file(9, "one")[1:], "zero", nil, 1},
		{file(1, "zero"), file(9, "one")[:len(file(9, "one"))-1], "zero", nil, 1},
		{file(1, long, long), file(2, ""), "", nil, 2}, // a snapshot may be empty
		{file(3, "", "", file(9, "in"), ""), file(2, long, long), "", []string{"", file(9, "in"), ""}, 3},
		{file(3, "zero", "a") + "x" + framed("lost"), "", "zero", []string{"a"}, 3}, // what is behind no good frame isn't read
		{"", "", "handed", nil, 1},
		{file(0, "zero", "a"), file(lastGen+1, "one", "b"), "handed", nil, 1},
	} {
		d := disk.Load([]byte(c.zero), []byte(c.one))
		v := checkOpen(t, d, "handed", c.snapshot, c.records...)
		if v.Generation() != c.generation {
			t.Errorf("of %q, %q: generation %d, not %d", c.zero, c.one, v.Generation(), c.generation)
		}
		checkErr(t, "Append", v.Append([]byte("more")), api.OK)
		checkOpen(t, d, "", c.snapshot, append(slices.Clone(c.records), "more")...)
	}
}

// P7.1: records and snapshots of each length up to the greatest; one byte more is too long, and changes nothing.
func TestLengths(t *testing.T) {
	for _, n := range []int{0, 1, 7, 8, 9, 255, 256, most - 9, most - 8} {
		long := strings.Repeat("r", n)
		d := disk.New()
		v := checkOpen(t, d, long, long)
		checkErr(t, "Append", v.Append([]byte(long)), api.OK)
		v = checkOpen(t, d, "s", long, long)
		checkErr(t, "Checkpoint", v.Checkpoint([]byte(long)), api.OK)
		checkOpen(t, d, "s", long)
	}
	d := disk.New()
	v := checkOpen(t, d, "s", "s")
	longest := strings.Repeat("r", most)
	checkErr(t, "Append", v.Append([]byte(longest)), api.OK)
	checkOpen(t, d, "s", "s", longest)
	was := lookAt(d)
	for _, n := range []int{most + 1, most + 2, 2 * most, 1 << 24} {
		checkErr(t, "too long a record", v.Append(make([]byte, n)), api.ErrLong)
	}
	for _, n := range []int{most - 7, most - 6, most, most + 1, 1 << 24} {
		checkErr(t, "too long a snapshot", v.Checkpoint(make([]byte, n)), api.ErrLong)
		checkNothing(t, d, make([]byte, n), api.ErrLong)
		checkNothing(t, disk.New(), make([]byte, n), api.ErrLong)
	}
	if lookAt(d) != was || v.Count() != 1 || v.Generation() != 1 {
		t.Error("what is too long leaves a trace")
	}
	checkErr(t, "Append behind a refusal", v.Append([]byte("a")), api.OK)
	checkErr(t, "Checkpoint behind a refusal", v.Checkpoint([]byte("t")), api.OK)
}

// P7.1: the greatest generation is reached, and not left; records go on.
func TestGreatestGeneration(t *testing.T) {
	d := disk.Load([]byte(file(lastGen-2, "s", "a")), nil)
	v := checkOpen(t, d, "", "s", "a")
	checkErr(t, "Checkpoint", v.Checkpoint([]byte("t")), api.OK)
	checkErr(t, "Checkpoint", v.Checkpoint([]byte("u")), api.OK)
	if v.Generation() != lastGen {
		t.Errorf("Generation: %d", v.Generation())
	}
	was := lookAt(d)
	for range 2 {
		checkErr(t, "Checkpoint", v.Checkpoint([]byte("v")), api.ErrRoom)
	}
	if lookAt(d) != was || v.Generation() != lastGen {
		t.Error("a refused checkpoint leaves a trace")
	}
	checkErr(t, "Append", v.Append([]byte("b")), api.OK)
	checkErr(t, "Checkpoint", v.Checkpoint(nil), api.ErrRoom)
	v = checkOpen(t, d, "", "u", "b")
	checkErr(t, "Checkpoint", v.Checkpoint(nil), api.ErrRoom)
	checkFiles(t, d, file(lastGen, "u", "b"), "")
}

// P7.1, P1: errors in the order in which the chapter names them.
func TestErrorsInOrder(t *testing.T) {
	long := make([]byte, 2*most)
	checkNothing(t, nil, nil, api.ErrNil)
	checkNothing(t, nil, long, api.ErrNil)
	d := disk.Load([]byte(file(lastGen, "s", "a")), []byte("x"))
	d.Off(0)
	checkNothing(t, d, long, api.ErrLong)
	checkNothing(t, d, nil, api.ErrDown)
	checkNothing(t, d, []byte("s"), api.ErrDown)
	if d.Writes() != 0 {
		t.Errorf("%d raw writes", d.Writes())
	}
	d.On()
	v := checkOpen(t, d, "", "s", "a")
	checkErr(t, "Checkpoint, long at the greatest generation", v.Checkpoint(long), api.ErrLong)
	d.Off(0)
	checkErr(t, "Checkpoint without power at the greatest generation", v.Checkpoint(nil), api.ErrRoom)
	checkErr(t, "Append, long without power", v.Append(long), api.ErrLong)
	checkErr(t, "Append without power", v.Append(nil), api.ErrDown)
	d.On()
	checkErr(t, "Append, long and sick", v.Append(long), api.ErrLong)
	checkErr(t, "Checkpoint, long and sick", v.Checkpoint(long), api.ErrLong)
	checkErr(t, "Checkpoint, sick at the greatest generation", v.Checkpoint(nil), api.ErrRoom)
	checkErr(t, "Append, sick", v.Append(nil), api.ErrDown)
}

// P7.1, P1: of a nil vault there is nothing.
func TestNilVault(t *testing.T) {
	var v *vault.Vault
	for _, b := range [][]byte{nil, {}, []byte("a"), make([]byte, 2*most)} {
		checkErr(t, "Append", v.Append(b), api.ErrNil)
		checkErr(t, "Checkpoint", v.Checkpoint(b), api.ErrNil)
	}
	if v.Count() != 0 || v.Generation() != 0 {
		t.Errorf("Count %d, Generation %d", v.Count(), v.Generation())
	}
}

// P7.1, P1: nil and empty mean the same.
func TestNilAndEmpty(t *testing.T) {
	for _, none := range [][]byte{nil, {}, make([]byte, 0, 9)} {
		d := disk.New()
		v, s, r, e := vault.Open(d, none)
		if len(s) != 0 || len(r) != 0 || e != api.OK {
			t.Fatalf("Open: %q, %q, %d", s, r, e)
		}
		checkErr(t, "Append", v.Append(none), api.OK)
		checkFiles(t, d, file(1, "", ""), "")
		checkErr(t, "Checkpoint", v.Checkpoint(none), api.OK)
		checkFiles(t, d, "", file(2, ""))
	}
}

// P7.1, P1: many records and many checkpoints take a moment, and all of them are there.
func TestMany(t *testing.T) {
	const n = 100000
	d := disk.New()
	v := checkOpen(t, d, "s", "s")
	var want []string
	for i := range n {
		record := string([]byte{byte(i), byte(i >> 8), byte(i >> 16)}[:i%4])
		want = append(want, record)
		if e := v.Append([]byte(record)); e != api.OK {
			t.Fatalf("record %d: %d", i, e)
		}
	}
	v = checkOpen(t, d, "", "s", want...)
	for i := range n {
		if e := v.Checkpoint([]byte{byte(i), byte(i >> 8)}); e != api.OK || v.Generation() != i+2 {
			t.Fatalf("checkpoint %d: %d, generation %d", i, e, v.Generation())
		}
	}
	last := n - 1
	checkOpen(t, d, "", string([]byte{byte(last & 0xff), byte(last >> 8 & 0xff)}))
}
