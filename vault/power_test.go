package vault_test

import (
	"fmt"
	"math/rand"
	"slices"
	"testing"

	"fletch/api"
	"fletch/disk"
	"fletch/vault"
)

// kept is what a vault has: a snapshot and the records behind it.
type kept struct {
	snapshot string
	records  []string
}

func (k kept) String() string {
	return fmt.Sprintf("%q%q", k.snapshot, k.records)
}

func (k kept) same(other kept) bool {
	return k.snapshot == other.snapshot && slices.Equal(k.records, other.records)
}

// change is a call that changes what a vault has.
type change struct {
	checkpoint bool
	text       string
}

func (c change) do(v *vault.Vault) api.Errno {
	if c.checkpoint {
		return v.Checkpoint([]byte(c.text))
	}
	return v.Append([]byte(c.text))
}

// behind answers what a vault has behind the call.
func (c change) behind(k kept) kept {
	if c.checkpoint {
		return kept{snapshot: c.text}
	}
	return kept{k.snapshot, append(slices.Clone(k.records), c.text)}
}

// reopen opens the disk and answers what it has.
func reopen(d *disk.Disk, snapshot string) (*vault.Vault, kept, api.Errno) {
	v, s, r, e := vault.Open(d, []byte(snapshot))
	return v, kept{string(s), texts(r)}, e
}

// beginnings are ways to a vault on a new disk: in either file, with and without records.
func beginnings() [][]change {
	return [][]change{
		nil,
		{{false, "a"}},
		{{false, "a"}, {false, ""}, {false, "bc"}},
		{{true, "t"}},
		{{false, "a"}, {true, "a longer snapshot"}, {false, "b"}},
		{{true, ""}, {true, "u"}, {false, "c"}, {false, "d"}},
	}
}

// at answers a vault behind these calls, and what it has.
func at(t *testing.T, calls []change) (*disk.Disk, *vault.Vault, kept) {
	t.Helper()
	d := disk.New()
	v, has, e := reopen(d, "s")
	checkErr(t, "Open", e, api.OK)
	for _, c := range calls {
		checkErr(t, "a call with power", c.do(v), api.OK)
		has = c.behind(has)
	}
	return d, v, has
}

// P7.2: all of the call or nothing, in whichever raw write the power goes, whatever is kept, and though it goes once more in Open.
func TestNothingIsLost(t *testing.T) {
	last := []change{{false, "x"}, {false, ""}, {false, "a longer record"}, {true, "next"}, {true, ""}}
	for _, calls := range beginnings() {
		for _, c := range last {
			for n := 1; n <= 3; n++ {
				for keep := -1; keep <= 8+8+len(c.text)+1; keep++ {
					for again := range 4 {
						loseTwice(t, calls, c, n, keep, again)
					}
				}
			}
		}
	}
}

// loseTwice does the call with the power going in its n-th raw write, opens with the power going in the again-th, and opens once more.
func loseTwice(t *testing.T, calls []change, c change, n, keep, again int) {
	t.Helper()
	d, v, ahead := at(t, calls)
	behind := c.behind(ahead)
	d.Arm(n, keep)
	went := c.do(v) == api.ErrDown
	if went != (c.checkpoint || n < 3) || d.Down() != went {
		t.Fatalf("%v, %v: raw write %d: the power went: %v", calls, c, n, went)
	}
	d.On()
	d.Arm(again, keep)
	v, has, e := reopen(d, "s")
	if e != api.OK {
		d.On()
		v, has, e = reopen(d, "s")
	}
	if e != api.OK || !has.same(ahead) && !has.same(behind) || !went && !has.same(behind) {
		t.Fatalf("%v, %v: the power went in raw write %d, %d bytes were kept, and again in %d: %v, %d", calls, c, n, keep, again, has, e)
	}
	goesOn(t, d, v, has)
}

// goesOn appends and makes a checkpoint, which must be there when the vault is opened anew.
func goesOn(t *testing.T, d *disk.Disk, v *vault.Vault, has kept) {
	t.Helper()
	d.Arm(0, 0)
	for _, c := range []change{{false, "more"}, {true, "later"}, {false, "last"}} {
		checkErr(t, "a call behind the power's going", c.do(v), api.OK)
		has = c.behind(has)
		next, got, e := reopen(d, "s")
		if e != api.OK || !got.same(has) {
			t.Fatalf("%v: %v, not %v, %d", c, got, has, e)
		}
		v = next
	}
}

// P7.2: what was answered OK is safe: the power that goes right behind takes nothing.
func TestOKIsSafe(t *testing.T) {
	for _, calls := range beginnings() {
		for upTo := range len(calls) + 1 {
			for _, keep := range keeps() {
				d, v, has := at(t, calls[:upTo])
				d.Off(keep)
				checkErr(t, "Append without power", v.Append([]byte("x")), api.ErrDown)
				d.On()
				if _, got, e := reopen(d, "another"); !got.same(has) || e != api.OK {
					t.Errorf("%v, %d kept: %v, not %v, %d", calls[:upTo], keep, got, has, e)
				}
			}
		}
	}
}

// P7.2: what Open answered is safe, if it waited ahead of it too.
func TestWhatOpenAnsweredIsSafe(t *testing.T) {
	for _, b := range someDisks() {
		d := b.disk()
		_, has, e := reopen(d, "handed")
		checkErr(t, "Open", e, api.OK)
		d.Off(0)
		d.On()
		if _, got, e := reopen(d, "another"); !got.same(has) || e != api.OK {
			t.Fatalf("of %q: %v, then %v, %d", b, has, got, e)
		}
	}
}

// P7.2: on a disk all of which is safe the power may go in Open as often as it will: the answer is the one that Open has where it doesn't go.
func TestPowerGoesInOpen(t *testing.T) {
	r := rand.New(rand.NewSource(3))
	for _, zero := range someFiles() {
		for _, one := range someFiles() {
			d := disk.Load([]byte(zero), []byte(one))
			_, want, _ := reopen(disk.Load([]byte(zero), []byte(one)), "handed")
			for range 1 + r.Intn(6) {
				d.Arm(1+r.Intn(4), keeps()[r.Intn(len(keeps()))])
				if v, got, e := reopen(d, "handed"); e == api.OK && !got.same(want) || e != api.OK && (e != api.ErrDown || v != nil || !got.same(kept{})) {
					t.Fatalf("of %q, %q: %v, %d, not %v", zero, one, got, e, want)
				}
				d.On()
			}
			d.Arm(0, 0)
			v, got, e := reopen(d, "handed")
			if e != api.OK || !got.same(want) {
				t.Fatalf("of %q, %q: %v, %d, not %v", zero, one, got, e, want)
			}
			if v.Generation() < lastGen {
				goesOn(t, d, v, got)
			}
		}
	}
}

// P7.2: a new disk's snapshot is the one that reached it whole; up to then the next Open's counts.
func TestPowerGoesInTheFirstOpen(t *testing.T) {
	first := file(1, "first")
	for n := 1; n <= 2; n++ {
		for keep := -1; keep <= len(first)+1; keep++ {
			d := disk.New()
			d.Arm(n, keep)
			checkNothing(t, d, []byte("first"), api.ErrDown)
			d.On()
			want := "second"
			if keep >= len(first) {
				want = "first"
			}
			checkOpen(t, d, "second", want)
			checkFiles(t, d, file(1, want), "")
		}
	}
}

// P7.1, P7.2: a vault whose call lost the power is sick, though the power is back: it answers ErrDown and makes no raw write.
func TestSick(t *testing.T) {
	for _, c := range []change{{false, "x"}, {true, "next"}} {
		for n := 1; n <= 3; n++ {
			d, v, has := at(t, []change{{false, "a"}, {true, "t"}, {false, "b"}})
			d.Arm(n, 4)
			if c.do(v) == api.OK {
				continue // an Append has but two raw writes
			}
			d.On()
			sickStays(t, d, v)
			_, got, e := reopen(d, "s")
			if e != api.OK || !got.same(has) && !got.same(c.behind(has)) {
				t.Errorf("%v: %v, %d", c, got, e)
			}
			sickStays(t, d, v) // also if the disk was opened anew
		}
	}
}

func sickStays(t *testing.T, d *disk.Disk, v *vault.Vault) {
	t.Helper()
	was, count, generation := lookAt(d), v.Count(), v.Generation()
	for range 3 {
		checkErr(t, "Append of a sick vault", v.Append([]byte("y")), api.ErrDown)
		checkErr(t, "Checkpoint of a sick vault", v.Checkpoint([]byte("z")), api.ErrDown)
	}
	if got := lookAt(d); got != was {
		t.Errorf("a sick vault changes its disk: %v, not %v", got, was)
	}
	if v.Count() != count || v.Generation() != generation {
		t.Error("a sick vault changes")
	}
}

// P7.1: what a vault knows behind a call that lost the power: a record counts when it is safe, a checkpoint from its second raw write on.
func TestCountBehindAnError(t *testing.T) {
	for n := 1; n <= 3; n++ {
		d, v, _ := at(t, []change{{false, "a"}, {false, "b"}})
		d.Arm(n, 100)
		if e := v.Append([]byte("c")); n < 3 && (e != api.ErrDown || v.Count() != 2) || n == 3 && (e != api.OK || v.Count() != 3) {
			t.Errorf("Append, raw write %d: %d, Count %d", n, e, v.Count())
		}
		if v.Generation() != 1 {
			t.Errorf("Append, raw write %d: Generation %d", n, v.Generation())
		}
		d, v, _ = at(t, []change{{false, "a"}, {false, "b"}})
		d.Arm(n, 100)
		checkErr(t, "Checkpoint", v.Checkpoint([]byte("t")), api.ErrDown)
		if n < 3 && (v.Count() != 2 || v.Generation() != 1) || n == 3 && (v.Count() != 0 || v.Generation() != 2) {
			t.Errorf("Checkpoint, raw write %d: Count %d, Generation %d", n, v.Count(), v.Generation())
		}
	}
}

// P7.2: a power that went and came back between two calls isn't seen.
func TestPowerBetweenCalls(t *testing.T) {
	for _, calls := range beginnings() {
		d := disk.New()
		v, has, _ := reopen(d, "s")
		for i, c := range calls {
			d.Off(i - 1)
			d.On()
			checkErr(t, "a call behind the power's coming back", c.do(v), api.OK)
			has = c.behind(has)
		}
		if _, got, e := reopen(d, "another"); !got.same(has) || e != api.OK {
			t.Errorf("%v: %v, not %v, %d", calls, got, has, e)
		}
	}
}

// P7.2: a long run in which the power goes again and again: behind each going there is what was ahead of the call or behind it.
func TestLongRun(t *testing.T) {
	r := rand.New(rand.NewSource(4))
	for range 300 {
		d := disk.New()
		v, has, _ := reopen(d, "s")
		for range 100 {
			c := change{r.Intn(5) == 0, anyText(r)}
			d.Arm(r.Intn(8), keeps()[r.Intn(len(keeps()))])
			e := c.do(v)
			if e == api.OK {
				has = c.behind(has)
				continue
			}
			v, has = comeBack(t, r, d, has, c.behind(has))
		}
	}
}

// comeBack opens a disk whose power went until it stays on.
func comeBack(t *testing.T, r *rand.Rand, d *disk.Disk, ahead, behind kept) (*vault.Vault, kept) {
	t.Helper()
	for {
		d.On()
		d.Arm(r.Intn(5), keeps()[r.Intn(len(keeps()))])
		v, got, e := reopen(d, "another")
		if e == api.ErrDown {
			continue
		}
		if e != api.OK || !got.same(ahead) && !got.same(behind) {
			t.Fatalf("%v, %d, neither %v nor %v", got, e, ahead, behind)
		}
		return v, got
	}
}

// P7.3: opening twice answers the same, and the second time makes one raw write.
func TestOpeningTwice(t *testing.T) {
	for _, calls := range beginnings() {
		d, v, has := at(t, calls)
		for range 3 {
			writes := d.Writes()
			w, got, e := reopen(d, "another")
			if e != api.OK || !got.same(has) || w.Generation() != v.Generation() || w.Count() != v.Count() || d.Writes() != writes+1 {
				t.Errorf("%v: %v, %d, %d raw writes", calls, got, e, d.Writes()-writes)
			}
		}
	}
}
