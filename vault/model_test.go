package vault_test

import (
	"encoding/binary"
	"fmt"
	"hash/crc32"
	"slices"
	"strings"
	"testing"

	"fletch/api"
	"fletch/disk"
	"fletch/vault"
)

const (
	most    = 1 << 20 // bytes of a record
	lastGen = 1 << 62
)

// framed is a payload's frame, by the library's CRC-32.
func framed(payload string) string {
	length := binary.LittleEndian.AppendUint32(nil, uint32(len(payload)))
	sum := crc32.ChecksumIEEE(append(slices.Clone(length), payload...))
	return string(binary.LittleEndian.AppendUint32(length, sum)) + payload
}

// file is a file that counts: a generation, a snapshot, records.
func file(generation uint64, snapshot string, records ...string) string {
	out := framed(string(binary.LittleEndian.AppendUint64(nil, generation)) + snapshot)
	for _, r := range records {
		out += framed(r)
	}
	return out
}

// told is what a file tells; of one that doesn't count the generation is 0.
type told struct {
	generation uint64
	snapshot   string
	records    []string
	end        int
}

// modelPayloads takes one frame behind the other off the front, as long as one is good.
func modelPayloads(b string) ([]string, int) {
	var out []string
	end := 0
	for len(b)-end >= 8 {
		n := int(binary.LittleEndian.Uint32([]byte(b[end:])))
		if n > most || n > len(b)-end-8 || framed(b[end+8:end+8+n]) != b[end:end+8+n] {
			break
		}
		out = append(out, b[end+8:end+8+n])
		end += 8 + n
	}
	return out, end
}

func modelFile(b string) told {
	payloads, end := modelPayloads(b)
	x := told{end: end}
	if len(payloads) == 0 || len(payloads[0]) < 8 {
		return x
	}
	generation := binary.LittleEndian.Uint64([]byte(payloads[0]))
	if generation >= 1 && generation <= lastGen {
		x.generation, x.snapshot, x.records = generation, payloads[0][8:], payloads[1:]
	}
	return x
}

// rawWrite is a raw write of the plan that a call makes.
type rawWrite struct {
	kind string
	f, n int
	b    string
}

// carry does the raw writes in their order, up to one that isn't done; it answers how many were done.
func carry(d *disk.Disk, plan []rawWrite) (int, api.Errno) {
	for i, w := range plan {
		e := api.OK
		switch w.kind {
		case "Append":
			e = d.Append(w.f, []byte(w.b))
		case "Sync":
			e = d.Sync(w.f)
		case "Truncate":
			e = d.Truncate(w.f, w.n)
		}
		if e != api.OK {
			return i, e
		}
	}
	return len(plan), api.OK
}

// model is a vault as the chapter tells it: each call is a plan of raw writes.
type model struct {
	d          *disk.Disk
	file       int
	generation uint64
	count      int
	sick       api.Errno
}

func modelOpen(d *disk.Disk, snapshot string) (*model, told, api.Errno) {
	if len(snapshot) > most-8 {
		return nil, told{}, api.ErrLong
	}
	zero, e := d.Read(0)
	if e != api.OK {
		return nil, told{}, e
	}
	one, _ := d.Read(1)
	plan, m, x := modelPlan(string(zero), string(one), snapshot)
	if _, e := carry(d, plan); e != api.OK {
		return nil, told{}, e
	}
	m.d = d
	return m, x, api.OK
}

// modelPlan answers which raw writes opening makes of files with these bytes.
func modelPlan(zero, one, snapshot string) ([]rawWrite, *model, told) {
	both := [2]string{zero, one}
	x := [2]told{modelFile(zero), modelFile(one)}
	var plan []rawWrite
	if x[0].generation == 0 && x[1].generation == 0 {
		if zero != "" {
			plan = append(plan, rawWrite{kind: "Truncate", f: 0})
		}
		plan = append(plan, rawWrite{kind: "Append", f: 0, b: file(1, snapshot)}, rawWrite{kind: "Sync", f: 0})
		if one != "" {
			plan = append(plan, rawWrite{kind: "Truncate", f: 1})
		}
		return plan, &model{generation: 1}, told{generation: 1, snapshot: snapshot}
	}
	f := 0
	if x[0].generation < x[1].generation {
		f = 1
	}
	if both[1-f] != "" {
		plan = append(plan, rawWrite{kind: "Truncate", f: 1 - f})
	}
	if x[f].end < len(both[f]) {
		plan = append(plan, rawWrite{kind: "Truncate", f: f, n: x[f].end})
	}
	plan = append(plan, rawWrite{kind: "Sync", f: f})
	return plan, &model{file: f, generation: x[f].generation, count: len(x[f].records)}, x[f]
}

func (m *model) append(record string) api.Errno {
	switch {
	case len(record) > most:
		return api.ErrLong
	case m.sick != api.OK:
		return m.sick
	}
	_, m.sick = carry(m.d, []rawWrite{{kind: "Append", f: m.file, b: framed(record)}, {kind: "Sync", f: m.file}})
	if m.sick == api.OK {
		m.count++
	}
	return m.sick
}

func (m *model) checkpoint(snapshot string) api.Errno {
	switch {
	case len(snapshot) > most-8:
		return api.ErrLong
	case m.generation == lastGen:
		return api.ErrRoom
	case m.sick != api.OK:
		return m.sick
	}
	done, e := carry(m.d, []rawWrite{
		{kind: "Append", f: 1 - m.file, b: file(m.generation+1, snapshot)},
		{kind: "Sync", f: 1 - m.file},
		{kind: "Truncate", f: m.file},
	})
	m.sick = e
	if done >= 2 {
		m.file, m.generation, m.count = 1-m.file, m.generation+1, 0
	}
	return e
}

// twin is a vault and its model, each on a disk of its own; done tells what was done, for whoever reads a failure.
type twin struct {
	d    *disk.Disk
	v    *vault.Vault
	m    *model
	done []string
}

// bytesOf are a disk's bytes: of each file the safe ones and those that wait.
type bytesOf [2]struct{ safe, waits string }

func (b bytesOf) disk() *disk.Disk {
	d := disk.Load([]byte(b[0].safe), []byte(b[1].safe))
	for f := range b {
		if b[f].waits != "" {
			d.Append(f, []byte(b[f].waits))
		}
	}
	return d
}

// twinOf opens both vaults, in vain if the power goes in the n-th raw write.
func twinOf(t *testing.T, b bytesOf, n, keep int, snapshot string) *twin {
	t.Helper()
	x := &twin{d: b.disk(), m: &model{d: b.disk()}}
	x.arm(n, keep)
	x.open(t, snapshot)
	return x
}

func (x *twin) note(format string, args ...any) {
	x.done = append(x.done, fmt.Sprintf(format, args...))
}

func (x *twin) arm(n, keep int) {
	x.note("Arm(%d, %d)", n, keep)
	x.d.Arm(n, keep)
	x.m.d.Arm(n, keep)
}

func (x *twin) off(keep int) {
	x.note("Off(%d)", keep)
	x.d.Off(keep)
	x.m.d.Off(keep)
}

func (x *twin) on() {
	x.note("On()")
	x.d.On()
	x.m.d.On()
}

// open opens both disks anew; vaults stay what they were where that is refused.
func (x *twin) open(t *testing.T, snapshot string) (string, []string, api.Errno) {
	t.Helper()
	x.note("Open(%q)", head(snapshot))
	v, s, r, e := vault.Open(x.d, []byte(snapshot))
	m, want, wantE := modelOpen(x.m.d, snapshot)
	if e != wantE || string(s) != want.snapshot || !slices.Equal(texts(r), want.records) || (v == nil) != (m == nil) {
		t.Fatalf("%v: %v, %q, %q, %d, not %q, %q, %d", x.done, v, s, r, e, want.snapshot, want.records, wantE)
	}
	if e == api.OK {
		x.v, x.m = v, m
	}
	x.check(t)
	return want.snapshot, want.records, e
}

func (x *twin) append(t *testing.T, record string) api.Errno {
	t.Helper()
	x.note("Append(%q)", head(record))
	got, want := x.v.Append([]byte(record)), x.m.append(record)
	if got != want {
		t.Fatalf("%v: %d, not %d", x.done, got, want)
	}
	x.check(t)
	return got
}

func (x *twin) checkpoint(t *testing.T, snapshot string) api.Errno {
	t.Helper()
	x.note("Checkpoint(%q)", head(snapshot))
	got, want := x.v.Checkpoint([]byte(snapshot)), x.m.checkpoint(snapshot)
	if got != want {
		t.Fatalf("%v: %d, not %d", x.done, got, want)
	}
	x.check(t)
	return got
}

// check holds the vault and its disk, byte by byte, against the model's.
func (x *twin) check(t *testing.T) {
	t.Helper()
	if x.v != nil && (x.v.Count() != x.m.count || x.v.Generation() != int(x.m.generation)) {
		t.Fatalf("%v: Count %d, Generation %d, not %d, %d", x.done, x.v.Count(), x.v.Generation(), x.m.count, x.m.generation)
	}
	if got, want := lookAt(x.d), lookAt(x.m.d); got != want {
		t.Fatalf("%v: the disk is\n%v, not\n%v", x.done, got, want)
	}
}

// seen is all that a disk shows of itself.
type seen struct {
	down   bool
	writes int
	safe   [2]string
	all    [2]string
}

func (x seen) String() string {
	return fmt.Sprintf("down %v, %d raw writes, safe %q, in all %q", x.down, x.writes, x.safe, x.all)
}

func lookAt(d *disk.Disk) seen {
	x := seen{down: d.Down(), writes: d.Writes()}
	for f := range 2 {
		x.safe[f] = string(d.Safe(f))
		b, _ := d.Read(f)
		x.all[f] = string(b)
	}
	return x
}

func texts(list [][]byte) []string {
	var out []string
	for _, b := range list {
		out = append(out, string(b))
	}
	return out
}

// head is enough of a text to tell which one it is.
func head(s string) string {
	if len(s) > 30 {
		return s[:30] + strings.Repeat(".", 3)
	}
	return s
}
