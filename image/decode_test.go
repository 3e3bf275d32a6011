package image_test

import (
	"math"
	"math/rand"
	"slices"
	"strings"
	"testing"

	"fletch/api"
	"fletch/image"
)

const nines = "\xff\xff\xff\xff\xff\xff\xff\xff\xff" // no number, nor the beginning of one; but eight of them are

// P16.1: what Decode tells first, at written-out bytes: number by number from the front, each fault at once.
func TestWhatDecodeTellsFirst(t *testing.T) {
	const (
		beyond = "\x81\x80\x80\x80\x80\x20" // 2^40 + 1
		last   = "\xff\xff\xff\xff\xff\x1f" // 2^40 - 1
		obj    = "\x00\x00\x01\x00\x00\x00"
		edge   = "\x00\x00\x00\x01\x00\x00"
		ask    = "\x00\x00\x00\x00\x01\x00"
		got    = "\x00\x00\x00\x00\x00\x01"
		cell   = obj + "\x00\x00\x01"
		msg    = edge + "\x00\x00\x00\x01"
	)
	for _, c := range []struct {
		in string
		e  api.Errno
	}{
		{"", api.ErrShort},
		{"\x1f", api.ErrShort},
		{"\x20", api.ErrForm},
		{"\x80", api.ErrShort},
		{"\x80\x00", api.ErrForm},
		{nines[1:], api.ErrShort},
		{nines, api.ErrForm},
		{nines[1:] + "\x7f", api.ErrForm},
		{"\x00" + greatestBytes, api.ErrShort},
		{"\x00" + beyond, api.ErrForm},
		{"\x00\x00\x08", api.ErrShort},
		{"\x00\x00\x09", api.ErrForm},
		{"\x00\x00\x00\x20", api.ErrShort},
		{"\x00\x00\x00\x21", api.ErrForm},
		{"\x00\x00\x00\x00\x04", api.ErrShort},
		{"\x00\x00\x00\x00\x05", api.ErrForm},
		{"\x00\x00\x00\x00\x00\x04", api.ErrShort},
		{"\x00\x00\x00\x00\x00\x05", api.ErrForm},
		{"\x00\x00\x00\x00\x00\x00", api.OK},
		{"\x00\x00\x00\x00\x00\x00\x00", api.ErrForm},
		{"\x00\x00\x00\x00\x00\x00\x80", api.ErrForm},
		{obj + "\x1f", api.ErrShort},
		{obj + "\x20", api.ErrForm},
		{obj + "\x00" + greatestBytes, api.ErrShort},
		{obj + "\x00" + beyond, api.ErrForm},
		{obj + "\x00\x00\x00", api.OK},
		{obj + "\x00\x00\x09", api.ErrShort},
		{obj + "\x00\x00\x0a", api.ErrForm},
		{cell + greatestBytes, api.ErrShort},
		{cell + beyond, api.ErrForm},
		{cell + "\x00\x03", api.ErrShort},
		{cell + "\x00\x04", api.ErrForm},
		{cell + "\x00\x00", api.ErrShort}, // a State 0 is told when its cell has been read
		{cell + "\x00\x00\x00", api.ErrShort},
		{cell + "\x00\x00\x00\x80", api.ErrShort},
		{cell + "\x00\x00\x00\x00", api.ErrForm},
		{cell + "\x00\x00\x00\x80\x00", api.ErrForm},
		{cell + "\x00\x01\x20", api.ErrShort},
		{cell + "\x00\x01\x21", api.ErrForm},
		{cell + "\x00\x01\x00" + greatestBytes, api.OK},
		{cell + "\x00\x01\x00" + beyond, api.ErrForm},
		{cell[:8] + "\x02\x00\x00\x00\x00", api.ErrForm}, // two cells: the first one's State is told ahead of the second one's missing
		{cell[:8] + "\x02\x00\x01\x00\x00", api.ErrShort},
		{edge + "\x1f", api.ErrShort},
		{edge + "\x20", api.ErrForm},
		{edge + "\x00" + greatestBytes, api.ErrShort},
		{edge + "\x00" + beyond, api.ErrForm},
		{edge + "\x00\x00" + greatestBytes, api.ErrShort},
		{edge + "\x00\x00" + beyond, api.ErrForm},
		{edge + "\x00\x00\x00\x80\x08", api.ErrShort},
		{edge + "\x00\x00\x00\x81\x08", api.ErrForm},
		{edge + "\x00" + greatestBytes + "\x00\x00", api.OK},
		{edge + "\x00" + greatestBytes + "\x00\x01", api.ErrForm}, // a message above MaxNum is told ahead of its bytes' missing
		{edge + "\x00" + last + "\x00\x01", api.ErrShort},
		{edge + "\x00" + last + "\x00\x02", api.ErrForm},
		{edge + "\x00" + last + "\x00\x02\x01\x00\x00\x01", api.ErrForm},
		{edge + "\x00" + last + "\x00\x01\x01\x00\x00\x01", api.OK},
		{msg + "\x05\x00\x00", api.ErrShort}, // a message's numbers are all read ahead of the question whether it can be
		{msg + "\x05\x00\x00\x01", api.ErrForm},
		{msg + "\x00\x00\x00\x01", api.ErrForm},
		{msg + "\x01\x08\x00", api.ErrShort},
		{msg + "\x01\x08\x00\x01", api.ErrForm},
		{msg + "\x01\x00\x20\x01", api.ErrForm},
		{msg + "\x01\x00\x00\x00", api.ErrForm},
		{msg + "\x01\x00\x00" + beyond, api.ErrForm},
		{msg + "\x01\x00\x00\x80", api.ErrShort},
		{msg + "\x01\x00\x00\x01", api.OK},
		{msg + "\x01\x00\x00\x01\x00", api.ErrForm},
		{msg + "\x04\x00\x00\x01", api.ErrShort},
		{msg + "\x04\x00\x00\x01\x1f", api.OK},
		{msg + "\x04\x00\x00\x01\x20", api.ErrForm},
		{msg[:9] + "\x02\x01\x00\x00\x00", api.ErrForm}, // two messages: the first one's fault is told ahead of the second one's missing
		{msg[:9] + "\x02\x01\x00\x00\x01", api.ErrShort},
		{ask + "\x07", api.ErrShort},
		{ask + "\x08", api.ErrForm},
		{ask + "\x00" + greatestBytes, api.OK},
		{ask + "\x00" + beyond, api.ErrForm},
		{ask + "\x00\x00\x00", api.ErrForm},
		{got + "\x07", api.ErrShort},
		{got + "\x08", api.ErrForm},
		{got + "\x00" + greatestBytes, api.ErrShort},
		{got + "\x00" + beyond, api.ErrForm},
		{got + "\x00\x00\x1f", api.OK},
		{got + "\x00\x00\x20", api.ErrForm},
		{got + "\x00\x00\x00\x00", api.ErrForm},
	} {
		if got := checkDecode(t, c.in); got != c.e {
			t.Errorf("Decode(% x): %d, not %d", c.in, got, c.e)
		}
	}
}

// P16.1: in each place of an image, numbers on both sides of the limits: what an image doesn't have there is told at once, though
// nothing or anything stands behind.
func TestEachPlaceOfAnImage(t *testing.T) {
	told := map[api.Errno]int{}
	for _, s := range []api.State{rich(), greatestAll(rich())} {
		xs := listed(s, modelMessage)
		for i := range xs {
			front, rest := bytesOf(xs[:i]...), bytesOf(xs[i+1:]...)
			for _, tail := range []string{"", rest, rest + "\x00", "\x80", "\x80\x00", nines[1:], nines, "\x00\x00\x00\x00"} {
				for _, x := range around(xs[i], 0, xs[i]) {
					if x >= 0 {
						told[checkDecode(t, front+bytesOf(x)+tail)]++
					}
				}
				for _, b := range []string{"\x80\x00", "\xff\x00", "\x81\x80\x80\x80\x80\x20", nines[1:], nines, nines[1:] + "\x7f", nines[1:] + "\x80\x01"} {
					told[checkDecode(t, front+b+tail)]++
				}
			}
		}
	}
	checkTold(t, told, 100)
}

// P16.1: all short texts of bytes that make a difference, behind the beginnings of images.
func TestDecodeOfShortBytes(t *testing.T) {
	const bytes = "\x00\x01\x02\x03\x04\x1f\x20\x80\xff"
	told := map[api.Errno]int{}
	everyText(bytes, 6, func(b string) { told[checkDecode(t, b)]++ })
	for _, front := range []string{
		"\x00\x00\x01\x00\x00\x00", "\x00\x00\x00\x01\x00\x00", "\x00\x00\x00\x00\x01\x00", "\x00\x00\x00\x00\x00\x01",
		"\x00\x00\x01\x00\x00\x00\x00\x00\x01", "\x00\x00\x00\x01\x00\x00\x00\x00\x00\x01", "\x00\x00\x01\x00\x01\x00\x00\x00\x00",
		"\x00\x00\x00\x01\x00\x01\x00\x80\x80\x80\x80\x80\x20", "\x00\x00\x00\x01\x00\x00\x00\xff\xff\xff\xff\xff\x1f",
	} {
		everyText(bytes, 5, func(b string) { told[checkDecode(t, front+b)]++ })
	}
	checkTold(t, told, 100)
}

// P16.1, P16.2: Decode of many bytes, images and others like them; where it is OK they are the image of its state.
func TestDecodeOfManyBytes(t *testing.T) {
	r := rand.New(rand.NewSource(3))
	told := map[api.Errno]int{}
	for range 100000 {
		b, _ := modelEncode(someState(r))
		told[checkDecode(t, spoilt(r, b))]++
	}
	checkTold(t, told, 1000)
}

// P16.2: no proper beginning of an image is one: it is ErrShort, and Decode answers no state beside it.
func TestBeginningsOfImages(t *testing.T) {
	r := rand.New(rand.NewSource(4))
	states := []api.State{rich(), greatestAll(rich()), stretched(rich(), "Out", 200)}
	for _, c := range known {
		states = append(states, c.s)
	}
	for range 300 {
		states = append(states, someState(r))
	}
	for _, s := range states {
		b, _ := image.Encode(s)
		for n := range b {
			if got, e := image.Decode(b[:n]); e != api.ErrShort || !slices.Equal(words(got), words(api.State{})) {
				t.Fatalf("Decode of %d of the bytes % x: %+v, %d", n, b, brief(got), e)
			}
		}
		for _, tail := range []string{"\x00", "\x01", "\x80", "\xff", nines, string(b), "\x00\x00\x00\x00\x00\x00"} {
			if got, e := image.Decode([]byte(string(b) + tail)); e != api.ErrForm || !slices.Equal(words(got), words(api.State{})) {
				t.Fatalf("Decode of % x with % x behind: %+v, %d", b, tail, brief(got), e)
			}
		}
	}
}

// P16.2: the longest images, too, go there and back.
func TestLongestImages(t *testing.T) {
	for _, s := range []api.State{fullest(), greatestAll(fullest()), stretched(stretched(rich(), "Out", mostOut), "Edges", mostEdges)} {
		b, e := image.Encode(s)
		if e != api.OK {
			t.Fatalf("Encode of the longest: %d", e)
		}
		checkState(t, b, s)
		for n := 0; n < len(b); n += 1 + len(b)/100 {
			if _, e := image.Decode(b[:n]); e != api.ErrShort {
				t.Errorf("Decode of %d of %d bytes: %d", n, len(b), e)
			}
		}
		if _, e := image.Decode(append(b, 0)); e != api.ErrForm {
			t.Errorf("Decode of the longest with a byte behind: %d", e)
		}
	}
}

// P1: long bytes end the calls.
func TestLongBytes(t *testing.T) {
	for _, one := range []string{"\x00", "\x01", "\x04", "\x08", "\x7f", "\x80", "\xff"} {
		b := strings.Repeat(one, 1<<20)
		if _, e := image.Decode([]byte(b)); e != api.ErrForm {
			t.Errorf("Decode of a million % x: %d", one, e)
		}
		if _, e := image.Read([]byte(b)); e != api.ErrForm {
			t.Errorf("Read of a million % x: %d", one, e)
		}
	}
	for _, c := range known {
		if _, e := image.Decode([]byte(c.image + strings.Repeat("\x00", 1<<20))); e != api.ErrForm {
			t.Errorf("Decode of % x with a million zeros behind: %d", c.image, e)
		}
	}
}

// P16.1: numbers of any length that are none of an image's, up to the greatest of all.
func TestGreatNumbers(t *testing.T) {
	xs := listed(rich(), modelMessage)
	for i := range xs {
		for bit := 41; bit < 63; bit++ {
			for _, x := range []int{1 << bit, 1<<bit + xs[i], 1<<bit - 1 + 1<<bit} {
				turned := slices.Clone(xs)
				turned[i] = x
				if e := checkDecode(t, bytesOf(turned...)); e != api.ErrForm {
					t.Errorf("Decode with the number %d at %d: %d", x, i, e)
				}
			}
		}
		turned := slices.Clone(xs)
		turned[i] = math.MaxInt
		checkDecode(t, bytesOf(turned[:i+1]...))
	}
}
