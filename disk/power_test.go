package disk_test

import (
	"math"
	"math/rand"
	"strings"
	"testing"

	"fletch/api"
	"fletch/disk"
)

// rawWrites: a row of them over both files, none of which is refused.
func rawWrites() []call {
	return []call{
		{name: "Append", f: 0, b: "abc"}, {name: "Append", f: 1, b: "uv"}, {name: "Sync", f: 0},
		{name: "Append", f: 0, b: "defg"}, {name: "Append", f: 1, b: "wxyz"}, {name: "Truncate", f: 0, n: 6},
		{name: "Append", f: 1}, {name: "Truncate", f: 1, n: 1}, {name: "Append", f: 1, b: "t"}, {name: "Truncate", f: 0, n: 1},
		{name: "Sync", f: 1}, {name: "Sync", f: 0}, {name: "Truncate", f: 1, n: 2},
	}
}

// P5.1: the power goes in just the armed one of all raw writes, armed ahead of any of them, with every keep.
func TestEachArmedWrite(t *testing.T) {
	row := rawWrites()
	for ahead := range row {
		for n := -1; n <= len(row)-ahead+1; n++ {
			for keep := -1; keep <= 8; keep++ {
				calls := append([]call{}, row[:ahead]...)
				calls = append(calls, call{name: "Arm", n: n, keep: keep})
				calls = append(calls, row[ahead:]...)
				d, _ := play(t, calls)
				if went := n >= 1 && n <= len(row)-ahead; d.Down() != went {
					t.Fatalf("%v: Down %v", calls, d.Down())
				}
				if last := ahead + n; d.Down() && d.Writes() != last {
					t.Fatalf("%v: %d raw writes, not %d", calls, d.Writes(), last)
				}
			}
		}
	}
}

// P5.1: when the power has gone nothing is armed any more: none of the raw writes behind its coming back is struck.
func TestArmedOnce(t *testing.T) {
	for _, gone := range [][]call{
		{{name: "Arm", n: 1, keep: 1}, {name: "Append", f: 0, b: "ab"}},
		{{name: "Arm", n: 1, keep: 1}, {name: "Sync", f: 0}},
		{{name: "Arm", n: 1, keep: 1}, {name: "Truncate", f: 0, n: 0}},
		{{name: "Arm", n: 1, keep: 1}, {name: "Off", keep: 0}},
		{{name: "Arm", n: 3, keep: 1}, {name: "Sync", f: 0}, {name: "Off", keep: 0}},
	} {
		calls := append(gone, call{name: "On"})
		calls = append(calls, call{name: "Truncate", f: 0, n: 0})
		calls = append(calls, rawWrites()...)
		if d, _ := play(t, calls); d.Down() {
			t.Errorf("%v: the power went again", calls)
		}
	}
}

// P5.1: Off and On of a disk that is off or on already change nothing: neither what is armed nor what waits.
func TestOffAndOnAgain(t *testing.T) {
	d := disk.New()
	d.Append(0, []byte("abc"))
	d.On()
	checkSafe(t, d, 0, "")
	d.Arm(2, 1)
	d.On()
	checkErr(t, "the first write", d.Append(0, []byte("d")), api.OK)
	checkErr(t, "the second one", d.Append(0, []byte("e")), api.ErrDown)
	checkSafe(t, d, 0, "a")
	d.Arm(2, 3)
	for _, keep := range []int{-1, 0, 5} {
		d.Off(keep)
		checkSafe(t, d, 0, "a")
	}
	for range 3 {
		d.On()
	}
	checkErr(t, "the first write", d.Append(0, []byte("fgh")), api.OK)
	checkErr(t, "the second one", d.Append(0, []byte("ij")), api.ErrDown)
	checkSafe(t, d, 0, "afgh")
}

// P5.1: Arm takes the place of what was armed before, number and keep, also to name none.
func TestArmAgain(t *testing.T) {
	for _, off := range []bool{false, true} {
		d := disk.New()
		if off {
			d.Off(0)
		}
		d.Arm(1, 0)
		d.Arm(3, 9)
		d.Arm(2, 1)
		d.On()
		checkErr(t, "the first write", d.Append(1, []byte("abc")), api.OK)
		checkErr(t, "the second one", d.Sync(1), api.ErrDown)
		checkSafe(t, d, 1, "a")
	}
	for _, n := range []int{0, -1, math.MinInt} {
		d := disk.New()
		d.Arm(2, 5)
		checkErr(t, "the first write", d.Sync(0), api.OK)
		d.Arm(n, 5)
		for range 10 {
			checkErr(t, "a write when none is armed", d.Append(0, []byte("a")), api.OK)
		}
	}
}

// P5.1: the count goes from the call of Arm on; calls that are refused, or are no raw writes, aren't counted.
func TestWhatIsCounted(t *testing.T) {
	d := disk.New()
	d.Append(0, []byte("ab"))
	d.Arm(2, 1)
	d.Append(5, []byte("a"))
	d.Sync(-1)
	d.Truncate(0, 3)
	d.Truncate(0, -1)
	d.Read(0)
	d.Safe(0)
	d.Down()
	d.On()
	if d.Writes() != 1 {
		t.Errorf("Writes: %d", d.Writes())
	}
	checkErr(t, "the first write", d.Truncate(0, 2), api.OK)
	d.Sync(2)
	checkErr(t, "the second one", d.Append(0, nil), api.ErrDown)
	d.Sync(0)
	d.Append(0, nil)
	if d.Writes() != 3 {
		t.Errorf("Writes: %d", d.Writes())
	}
	checkSafe(t, d, 0, "a")
}

// P5.1: numbers as great as there are make no other write the armed one.
func TestGreatNumbers(t *testing.T) {
	for _, n := range []int{math.MaxInt, math.MaxInt - 1, math.MaxInt - 2, math.MinInt, math.MinInt + 1} {
		d := disk.New()
		d.Sync(0)
		d.Sync(0)
		d.Arm(n, 1)
		for i := range 50 {
			if e := d.Append(i%2, []byte("a")); e != api.OK {
				t.Fatalf("Arm(%d): write %d answers %d", n, i, e)
			}
		}
	}
	for _, keep := range []int{math.MaxInt, math.MaxInt - 1, math.MinInt} {
		d := disk.Load([]byte("safe"), nil)
		d.Append(0, []byte("waits"))
		d.Arm(1, keep)
		checkErr(t, "Sync", d.Sync(1), api.ErrDown)
		want := "safewaits"
		if keep < 0 {
			want = "safe"
		}
		checkSafe(t, d, 0, want)
	}
}

// P5.1: in both files the same number of bytes is kept, whichever the power goes in.
func TestBothFilesAreKept(t *testing.T) {
	for f := range 2 {
		for keep := range 6 {
			d := disk.New()
			d.Append(0, []byte("abcd"))
			d.Append(1, []byte("uv"))
			d.Arm(1, keep)
			checkErr(t, "Sync", d.Sync(f), api.ErrDown)
			checkSafe(t, d, 0, "abcd"[:min(keep, 4)])
			checkSafe(t, d, 1, "uv"[:min(keep, 2)])
		}
	}
}

// P5.2: behind any call but Truncate what was safe is the beginning of what is safe;
// behind the power's going a file has its safe bytes and a beginning of those that waited.
func TestSafeStaysSafe(t *testing.T) {
	r := rand.New(rand.NewSource(2))
	for range 2000 {
		d, m := disk.New(), &model{}
		for range 40 {
			c := anyCall(r, m)
			var safe, whole [2]string
			for f := range 2 {
				safe[f] = string(d.Safe(f))
				b, _ := d.Read(f)
				whole[f] = string(b)
			}
			was := d.Down()
			do(t, d, m, c, []call{c})
			if c.name == "Append" && c.f&1 == c.f {
				whole[c.f] += c.b // they wait when the power goes in this very call
			}
			for f := range 2 {
				checkStays(t, c, string(d.Safe(f)), safe[f], whole[f], d.Down() && !was)
			}
		}
	}
}

func checkStays(t *testing.T, c call, now, safe, whole string, went bool) {
	t.Helper()
	if (c.name != "Truncate" || went) && !strings.HasPrefix(now, safe) {
		t.Fatalf("%v: %q is safe, %q was", c, now, safe)
	}
	if went && !strings.HasPrefix(whole, now) {
		t.Fatalf("%v: %q is left of %q", c, now, whole)
	}
}

// refusedCall draws a call that the disk must refuse, as it is now.
func refusedCall(r *rand.Rand, m *model) call {
	f := r.Intn(2)
	beyond := []int{math.MinInt, -1, len(m.whole(f)) + 1, math.MaxInt}[r.Intn(4)]
	none := noFiles()[r.Intn(len(noFiles()))]
	kinds := []call{
		{name: "Truncate", f: f, n: beyond},
		{name: "Truncate", f: none},
		{name: "Append", f: none, b: "none"},
		{name: "Sync", f: none},
	}
	if m.off {
		kinds = append(kinds, call{name: "Truncate", f: f}, call{name: "Append", f: f, b: "off"}, call{name: "Sync", f: f})
	}
	return kinds[r.Intn(len(kinds))]
}

// P5.3: a row of calls answers the same and leaves the same with any number of refused calls between.
func TestRefusedCallsChangeNothing(t *testing.T) {
	r := rand.New(rand.NewSource(3))
	for range 1500 {
		d, m := disk.New(), &model{}
		var done []call
		for range 40 {
			for range r.Intn(4) {
				done = append(done, refusedCall(r, m))
				if e := done[len(done)-1].onDisk(d); e != api.ErrArg && e != api.ErrDown {
					t.Fatalf("%v: the last one answers %d", done, e)
				}
				checkDisk(t, d, m, done)
			}
			done = append(done, anyCall(r, m))
			do(t, d, m, done[len(done)-1], done)
			checkDisk(t, d, m, done)
		}
	}
}
