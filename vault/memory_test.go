package vault_test

import (
	"bytes"
	"testing"

	"fletch/api"
	"fletch/disk"
	"fletch/vault"
)

const marked = 0xee

// roomy answers b with spare room behind it that holds marks.
func roomy(b string) []byte {
	room := bytes.Repeat([]byte{marked}, len(b)+64)
	return room[:copy(room, b)]
}

// scribble writes into bytes and their spare room.
func scribble(b []byte) {
	b = b[:cap(b)]
	for i := range b {
		b[i] = 0x55
	}
}

func checkUntouched(t *testing.T, what string, b []byte, want string) {
	t.Helper()
	if string(b) != want {
		t.Errorf("%s: what was handed in is %q now, not %q", what, b, want)
	}
	for _, c := range b[len(b):cap(b)] {
		if c != marked {
			t.Errorf("%s: the spare room was written to", what)
			return
		}
	}
}

// P7.4: what is handed in isn't changed, spare room included, by the call or by any behind it.
func TestBytesStayAsTheyWere(t *testing.T) {
	for _, in := range []string{"", "a", "some bytes"} {
		s, r, u := roomy("s"+in), roomy(in), roomy("u"+in)
		d := disk.New()
		v, answered, _, _ := vault.Open(d, s)
		scribble(answered)
		v.Append(r)
		v.Append(r)
		v.Checkpoint(u)
		v.Append([]byte("behind it"))
		_, answered, records, _ := vault.Open(d, s)
		scribble(answered)
		scribble(records[0])
		v.Checkpoint(s)
		d.Arm(1, 3)
		v.Append(r)
		checkUntouched(t, "Open", s, "s"+in)
		checkUntouched(t, "Append", r, in)
		checkUntouched(t, "Checkpoint", u, "u"+in)
	}
}

// P7.4: nor is it kept: what is written to it behind the call isn't seen.
func TestNothingIsKept(t *testing.T) {
	s, a, u, b := roomy("snapshot"), roomy("record"), roomy("next"), roomy("other")
	d := disk.New()
	v, answered, _, _ := vault.Open(d, s)
	scribble(s)
	if string(answered) != "snapshot" {
		t.Errorf("Open's answer shares memory with what was handed in: %q", answered)
	}
	v.Append(a)
	scribble(a)
	v = checkOpen(t, d, "", "snapshot", "record")
	v.Checkpoint(u)
	scribble(u)
	v.Append(b)
	scribble(b)
	checkOpen(t, d, "", "next", "other")
}

// P7.4: the snapshot and each record that Open answers are the caller's, their spare room too: no other answer, no file and no vault sees what is written there.
func TestAnswersAreNewMemory(t *testing.T) {
	want := []string{"one", "", "two", "three", ""}
	for _, snapshot := range []string{"", "snapshot"} {
		d := disk.Load(nil, []byte(file(3, snapshot, want...)))
		_, others, all, _ := vault.Open(d, nil)
		for i := -1; i < len(want); i++ {
			v, s, r, _ := vault.Open(d, nil)
			list := append([][]byte{s}, r...)
			scribble(list[i+1])
			scribble(append(list[i+1], "0123456789"...))
			list[i+1] = []byte(append([]string{snapshot}, want...)[i+1])
			for j, x := range append([]string{snapshot}, want...) {
				if string(list[j]) != x {
					t.Errorf("%d shares memory with %d: %q", i, j, list[j])
				}
			}
			clear(r[:cap(r)])
			checkErr(t, "Append", v.Append(nil), api.OK)
			checkErr(t, "Truncate", d.Truncate(1, len(file(3, snapshot, want...))), api.OK)
			checkOpen(t, d, "", snapshot, want...)
		}
		if string(others) != snapshot || len(all) != len(want) || string(all[0]) != "one" || string(all[3]) != "three" {
			t.Errorf("two answers share memory: %q, %q", others, all)
		}
	}
}

// P7.4: so is a new vault's snapshot.
func TestNewSnapshotIsNewMemory(t *testing.T) {
	for _, in := range []string{"", "snapshot"} {
		d := disk.New()
		handed := roomy(in)
		_, s, _, _ := vault.Open(d, handed)
		scribble(s)
		scribble(append(s, "0123456789"...))
		checkUntouched(t, "Open", handed, in)
		checkOpen(t, d, "", in)
	}
}

// P7.4: an answer stays what it was, whatever becomes of the vault and its disk.
func TestAnswersStay(t *testing.T) {
	d := disk.Load([]byte(file(1, "snapshot", "one", "two")), nil)
	v, s, r, _ := vault.Open(d, nil)
	v.Append([]byte("three"))
	v.Checkpoint([]byte("another"))
	v.Checkpoint([]byte("a third one, and long"))
	d.Truncate(0, 0)
	d.Append(0, bytes.Repeat([]byte("0123456789"), 10))
	if string(s) != "snapshot" || len(r) != 2 || string(r[0]) != "one" || string(r[1]) != "two" {
		t.Errorf("the answers are %q, %q now", s, r)
	}
}

// P7.4, P1: two vaults on disks of their own have nothing in common, a sick one and one that is well neither.
func TestTwoVaults(t *testing.T) {
	c, d := disk.New(), disk.New()
	v, w := checkOpen(t, c, "v", "v"), checkOpen(t, d, "w", "w")
	v.Append([]byte("a"))
	w.Append([]byte("x"))
	w.Checkpoint([]byte("y"))
	v.Append([]byte("b"))
	c.Off(0)
	checkErr(t, "Append without power", v.Append([]byte("c")), api.ErrDown)
	checkErr(t, "Append with power", w.Append([]byte("z")), api.OK)
	c.On()
	checkOpen(t, c, "", "v", "a", "b")
	checkOpen(t, d, "", "y", "z")
}

// P7.4, P1: so vaults of several goroutines, one each, may be used at one time.
func TestVaultsAtOneTime(t *testing.T) {
	done := make(chan string)
	for range 8 {
		go func() {
			d := disk.New()
			v, _, _, _ := vault.Open(d, []byte("s"))
			for i := range 500 {
				v.Append([]byte{byte(i)})
				if i%7 == 0 {
					v.Checkpoint([]byte{byte(i), 0})
				}
			}
			_, s, r, _ := vault.Open(d, nil)
			done <- string(s) + string(bytes.Join(r, nil))
		}()
	}
	first := <-done
	for range 7 {
		if got := <-done; got != first {
			t.Errorf("vaults that were used alike differ: %q, %q", first, got)
		}
	}
	if len(first) != 2+2 {
		t.Errorf("%q", first)
	}
}
