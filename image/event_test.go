package image_test

import (
	"math"
	"math/rand"
	"testing"

	"fletch/api"
	"fletch/image"
)

// knownEvents: events and their bytes, written out.
var knownEvents = []struct {
	ev    api.Event
	bytes string
}{
	{api.Event{Kind: api.EvAcquire, Obj: 2}, "\x01\x02"},
	{api.Event{Kind: api.EvAcquire}, "\x01\x00"},
	{api.Event{Kind: api.EvRelease, Obj: 7}, "\x02\x07"},
	{api.Event{Kind: api.EvLocate, Obj: 7}, "\x03\x07"},
	{api.Event{Kind: api.EvGram, Gram: api.Gram{From: 0, To: 1, Ack: 2}}, "\x04\x00\x01\x02\x00"},
	{api.Event{Kind: api.EvGram, Gram: api.Gram{From: 31, To: 30, Ack: 1 << 40}}, "\x04\x1f\x1e" + greatestBytes + "\x00"},
	{api.Event{Kind: api.EvGram, Gram: api.Gram{From: 1, To: 0, Ack: 3, Seq: 1, Msg: api.Msg{Kind: api.Find, Node: 1, Num: 1}}},
		"\x04\x01\x00\x03\x01\x01\x00\x01\x01"},
	{api.Event{Kind: api.EvGram, Gram: api.Gram{From: 5, To: 31, Seq: 1 << 40, Msg: api.Msg{Kind: api.Tell, Obj: 7, Node: 30, Num: 300, Where: 31}}},
		"\x04\x05\x1f\x00" + greatestBytes + "\x04\x07\x1e\xac\x02\x1f"},
}

// P16.1, P16.2: known events, by their written-out bytes, there and back.
func TestKnownEvents(t *testing.T) {
	for _, c := range knownEvents {
		if b, e := image.Event(c.ev); string(b) != c.bytes || e != api.OK {
			t.Errorf("Event(%+v): % x, %d, not % x", c.ev, b, e, c.bytes)
		}
		if got, e := image.Read([]byte(c.bytes)); got != c.ev || e != api.OK {
			t.Errorf("Read(% x): %+v, %d, not %+v", c.bytes, got, e, c.ev)
		}
	}
}

// P16.1: events with each field on both sides of its limits, in all combinations of kinds, objects and datagrams.
func TestEdgesOfEvents(t *testing.T) {
	grams := []api.Gram{
		{}, {To: 1}, {From: 1, To: 0, Ack: 5}, {From: 31, To: 30, Ack: greatestNum}, {From: 1}, {Ack: 1}, {Seq: 1}, {Msg: api.Msg{Where: 1}}, {Msg: api.Msg{Kind: 1}},
		{From: 1, To: 1}, {From: 32, To: 1}, {From: -1, To: 1}, {To: 32}, {To: -1}, {To: 1, Ack: -1}, {To: 1, Ack: greatestNum + 1},
		{To: 1, Seq: 1}, {To: 1, Seq: -1}, {To: 1, Seq: greatestNum + 1, Msg: api.Msg{Kind: 1, Num: 1}}, {To: 1, Msg: api.Msg{Kind: 1, Num: 1}},
		{To: 1, Seq: 1, Msg: api.Msg{Kind: 1, Num: 1}}, {To: 1, Seq: 1, Msg: api.Msg{Kind: 4, Num: 1, Where: 31}}, {To: 1, Seq: 1, Msg: api.Msg{Kind: 4, Num: 1, Where: 32}},
		{To: 1, Seq: 1, Msg: api.Msg{Kind: 1, Num: 1, Where: 1}}, {To: 1, Seq: 1, Msg: api.Msg{Kind: 5, Num: 1}}, {To: 1, Seq: 1, Msg: api.Msg{Kind: 3, Obj: 8, Num: 1}},
		{To: 1, Seq: 1, Msg: api.Msg{Kind: 2, Obj: 7, Node: 31, Num: greatestNum}}, {To: 1, Seq: 1, Msg: api.Msg{Kind: 2, Node: 32, Num: 1}},
	}
	could := 0
	for _, kind := range []int{math.MinInt, -4, -1, 0, 1, 2, 3, 4, 5, 6, 8, 257, 1<<32 + 1, math.MaxInt} {
		for _, obj := range []int{math.MinInt, -1, 0, 1, 6, 7, 8, 9, 31, 256, 1 << 32, math.MaxInt} {
			for _, g := range grams {
				if checkEvent(t, api.Event{Kind: kind, Obj: obj, Gram: g}) == api.OK {
					could++
				}
			}
		}
	}
	// Three calls of four of the objects, and seven of the datagrams.
	if could != 3*4+7 {
		t.Errorf("%d of the events have bytes", could)
	}
}

// P16.1: what Read tells first, at written-out bytes.
func TestWhatReadTellsFirst(t *testing.T) {
	for _, c := range []struct {
		in string
		e  api.Errno
	}{
		{"", api.ErrShort},
		{"\x80", api.ErrShort},
		{"\x80\x00", api.ErrForm},
		{nines[1:], api.ErrShort},
		{nines, api.ErrForm},
		{nines[1:] + "\x7f", api.ErrForm},
		{"\x00", api.ErrForm}, // no kind is told at once
		{"\x00\x00", api.ErrForm},
		{"\x05", api.ErrForm},
		{"\x05\x00", api.ErrForm},
		{"\x84\x01", api.ErrForm},
		{"\x01", api.ErrShort},
		{"\x02", api.ErrShort},
		{"\x03", api.ErrShort},
		{"\x03\x80", api.ErrShort},
		{"\x03\x80\x00", api.ErrForm},
		{"\x03" + nines[1:], api.ErrShort},
		{"\x03" + nines, api.ErrForm},
		{"\x03\x07", api.OK},
		{"\x01\x08", api.ErrForm},
		{"\x01" + nines[1:] + "\x7f", api.ErrForm},
		{"\x01\x02\x00", api.ErrForm},
		{"\x01\x02\x80", api.ErrForm},
		{"\x04", api.ErrShort},
		{"\x04\x00\x01\x02", api.ErrShort},
		{"\x04\x00\x01\x02\x80", api.ErrShort},
		{"\x04\x00\x01\x80\x00", api.ErrForm},
		{"\x04\x05\x05\x00", api.ErrShort}, // all of a datagram is read ahead of the question whether it can be
		{"\x04\x05\x05\x00\x00", api.ErrForm},
		{"\x04\x20\x00\x00\x00", api.ErrForm},
		{"\x04\x00\x01\x02\x00", api.OK},
		{"\x04\x00\x01\x02\x00\x00", api.ErrForm},
		{"\x04\x00\x01\x02\x00\xa9\xd7\xb0\x12", api.ErrForm}, // no sum stands behind the fields
		{"\x04\x00\x01\x02\x01", api.ErrShort},
		{"\x04\x00\x01\x02\x01\x05\x00\x00", api.ErrShort},
		{"\x04\x00\x01\x02\x01\x05\x00\x00\x01", api.ErrForm},
		{"\x04\x00\x01\x02\x01\x01\x00\x00\x00", api.ErrForm},
		{"\x04\x00\x01\x02\x01\x01\x00\x00\x01", api.OK},
		{"\x04\x00\x01\x02\x01\x04\x00\x00\x01", api.ErrShort},
		{"\x04\x00\x01\x02\x01\x04\x00\x00\x01\x1f", api.OK},
		{"\x04\x00\x01\x02\x01\x04\x00\x00\x01\x20", api.ErrForm},
		{"\x04\x00\x01\x02\x01\x04\x00\x00\x01\x00\x00", api.ErrForm},
	} {
		if got := checkRead(t, c.in); got != c.e {
			t.Errorf("Read(% x): %d, not %d", c.in, got, c.e)
		}
	}
}

// P16.1, P16.2: Read of all short texts of bytes that make a difference, and of many longer ones.
func TestReadOfManyBytes(t *testing.T) {
	told := map[api.Errno]int{}
	everyText("\x00\x01\x02\x03\x04\x05\x07\x08\x1f\x20\x7f\x80\xff", 4, func(b string) { told[checkRead(t, b)]++ })
	for _, front := range []string{"\x04", "\x04\x00\x01", "\x04\x00\x01\x00\x01", "\x04\x00\x01\x00\x01\x04"} {
		everyText("\x00\x01\x04\x05\x07\x08\x1f\x20\x80", 5, func(b string) { told[checkRead(t, front+b)]++ })
	}
	for kind := range 256 {
		for obj := range 256 {
			told[checkRead(t, string([]byte{byte(kind), byte(obj)}))]++
		}
		told[checkRead(t, string([]byte{byte(kind)}))]++
	}
	r := rand.New(rand.NewSource(5))
	for range 200000 {
		b, _ := modelEvent(someEvent(r))
		told[checkRead(t, spoilt(r, b))]++
	}
	checkTold(t, told, 1000)
}

// P16.2: events there and back; no proper beginning of an event's bytes is one, nor are they with more behind.
func TestEventsThereAndBack(t *testing.T) {
	r := rand.New(rand.NewSource(6))
	for range 20000 {
		ev := someEvent(r)
		if e := checkEvent(t, ev); e != api.OK {
			t.Fatalf("Event(%+v): %d", ev, e)
		}
		b, _ := image.Event(ev)
		for n := range b {
			if got, e := image.Read(b[:n]); e != api.ErrShort || got != (api.Event{}) {
				t.Fatalf("Read of %d of the bytes % x: %+v, %d", n, b, got, e)
			}
		}
		for _, tail := range []string{"\x00", "\x80", "\xff", string(b)} {
			if got, e := image.Read([]byte(string(b) + tail)); e != api.ErrForm || got != (api.Event{}) {
				t.Fatalf("Read of % x with % x behind: %+v, %d", b, tail, got, e)
			}
		}
	}
}
