package image_test

import (
	"math"
	"math/rand"
	"slices"
	"testing"

	"fletch/api"
	"fletch/image"
)

const greatestBytes = "\x80\x80\x80\x80\x80\x20" // those of 2^40

// known: states and their images, written out: the chapter's example, nothing, each kind of entry, the order of all, the edges.
var known = []struct {
	s     api.State
	image string
}{
	{api.State{Objs: []api.Own{{Arrow: 1}}, Edges: []api.Edge{{Peer: 1}}},
		"\x00\x00\x01\x01\x00\x00" + "\x01\x00\x00" + "\x01\x00\x00\x00"},
	{api.State{}, "\x00\x00\x00\x00\x00\x00"},
	{api.State{Me: 31, Asked: 1 << 40}, "\x1f" + greatestBytes + "\x00\x00\x00\x00"},
	{api.State{Me: 5, Objs: []api.Own{{Arrow: 5, Made: 300, Cells: []api.Cell{{Num: 3, State: api.Held, Node: -1}}}}},
		"\x05\x00\x01\x00\x00\x00" + "\x05\xac\x02\x01" + "\x03\x02\x00\x00"},
	{api.State{Objs: []api.Own{{Cells: []api.Cell{{Num: 1, State: api.Waiting, Node: 0, Next: 2}, {Num: 2, State: api.Resting, Node: 30, Next: 128}}}, {}}},
		"\x00\x00\x02\x00\x00\x00" + "\x00\x00\x02" + "\x01\x01\x01\x02" + "\x02\x03\x1f\x80\x01" + "\x00\x00\x00"},
	{api.State{Objs: []api.Own{{Arrow: 31, Made: 1 << 40, Cells: []api.Cell{{Num: 1 << 40, State: api.Resting, Node: 31, Next: 1 << 40}}}}},
		"\x00\x00\x01\x00\x00\x00" + "\x1f" + greatestBytes + "\x01" + greatestBytes + "\x03\x20" + greatestBytes},
	{api.State{Edges: []api.Edge{{Peer: 2, Base: 5, Seen: 128, Out: []api.Msg{{Kind: api.Find, Obj: 2, Node: 3, Num: 300}, {Kind: api.Tell, Node: 1, Num: 1, Where: 5}}}}},
		"\x00\x00\x00\x01\x00\x00" + "\x02\x05\x80\x01\x02" + "\x01\x02\x03\xac\x02" + "\x04\x00\x01\x01\x05"},
	{api.State{Edges: []api.Edge{{Peer: 31, Base: 1<<40 - 1, Seen: 1 << 40, Out: []api.Msg{{Kind: api.Pass, Obj: 7, Node: 31, Num: 1 << 40}}}, {Base: 1 << 40}}},
		"\x00\x00\x00\x02\x00\x00" + "\x1f\xff\xff\xff\xff\xff\x1f" + greatestBytes + "\x01" + "\x02\x07\x1f" + greatestBytes + "\x00" + greatestBytes + "\x00\x00"},
	{api.State{Asks: []api.Ask{{Obj: 7, Num: 1 << 40}, {}}, Got: []api.Found{{Obj: 7, Num: 128, Where: 31}, {}, {Num: 1}}},
		"\x00\x00\x00\x00\x02\x03" + "\x07" + greatestBytes + "\x00\x00" + "\x07\x80\x01\x1f" + "\x00\x00\x00" + "\x00\x01\x00"},
	{api.State{Me: 1, Asked: 2, Objs: []api.Own{{Arrow: 3, Made: 4}, {Arrow: 5, Made: 6, Cells: []api.Cell{{Num: 7, State: api.Waiting, Node: 8, Next: 9}}}, {Arrow: 10}},
		Edges: []api.Edge{{Peer: 11, Base: 12, Seen: 13, Out: []api.Msg{{Kind: api.Seek, Obj: 4, Node: 14, Num: 15}}}, {Peer: 16, Base: 17, Seen: 18}},
		Asks:  []api.Ask{{Obj: 5, Num: 19}}, Got: []api.Found{{Obj: 6, Num: 20, Where: 21}}},
		"\x01\x02\x03\x02\x01\x01" + "\x03\x04\x00" + "\x05\x06\x01\x07\x01\x09\x09" + "\x0a\x00\x00" +
			"\x0b\x0c\x0d\x01\x03\x04\x0e\x0f" + "\x10\x11\x12\x00" + "\x05\x13" + "\x06\x14\x15"},
}

// rich: a state that has two entries in each list, with numbers unlike one another.
func rich() api.State {
	return api.State{
		Me: 3, Asked: 300,
		Objs: []api.Own{
			{Arrow: 2, Made: 130, Cells: []api.Cell{{Num: 10, State: api.Held, Node: 7, Next: 11}, {Num: 12, State: api.Waiting, Node: -1}}},
			{Arrow: 3, Made: 5, Cells: []api.Cell{{Num: 0, State: api.Resting, Node: -1}, {Num: 200, State: api.Waiting, Node: 31, Next: 129}}},
		},
		Edges: []api.Edge{
			{Peer: 2, Base: 9, Seen: 8, Out: []api.Msg{{Kind: api.Find, Obj: 1, Node: 4, Num: 128}, {Kind: api.Tell, Obj: 2, Node: 5, Num: 6, Where: 30}}},
			{Peer: 6, Base: 131, Seen: 1, Out: []api.Msg{{Kind: api.Seek, Obj: 3, Node: 2, Num: 7}, {Kind: api.Pass, Obj: 4, Node: 1, Num: 500}}},
		},
		Asks: []api.Ask{{Obj: 5, Num: 132}, {Obj: 6, Num: 2}},
		Got:  []api.Found{{Obj: 4, Num: 1, Where: 29}, {Obj: 3, Num: 133, Where: 2}},
	}
}

// stretched answers the state with so many entries in each list that a name tells.
func stretched(s api.State, name string, many int) api.State {
	switch name {
	case "Objs":
		s.Objs = fill(s.Objs, many)
	case "Edges":
		s.Edges = fill(s.Edges, many)
	case "Asks":
		s.Asks = fill(s.Asks, many)
	case "Got":
		s.Got = fill(s.Got, many)
	case "Cells":
		s.Objs = slices.Clone(s.Objs)
		for i, o := range s.Objs {
			s.Objs[i].Cells = fill(o.Cells, many)
		}
	case "Out":
		s.Edges = slices.Clone(s.Edges)
		for i, e := range s.Edges {
			s.Edges[i].Out = fill(e.Out, many)
		}
	}
	return s
}

// fill answers so many entries, those that are there again and again.
func fill[T any](xs []T, many int) []T {
	return slices.Repeat(xs, many/len(xs)+1)[:many]
}

// fullest: the state with as many entries in each list as one with an image has.
func fullest() api.State {
	s := rich()
	for _, name := range []string{"Cells", "Out", "Objs", "Edges", "Asks", "Got"} {
		s = stretched(s, name, greatest[name])
	}
	return s
}

// greatestAll answers the state with each number as great as one with an image has it.
func greatestAll(s api.State) api.State {
	s = apart(s)
	for _, p := range numbersOf(&s) {
		*p.at = p.high
	}
	for i := range s.Edges {
		s.Edges[i].Base -= len(s.Edges[i].Out)
		for j := range s.Edges[i].Out { // once more: only now each is a Tell
			for _, p := range messageNumbers(&s.Edges[i].Out[j]) {
				*p.at = p.high
			}
		}
	}
	return s
}

// apart answers the state in new memory, list by list.
func apart(s api.State) api.State {
	s.Objs = slices.Clone(s.Objs)
	for i := range s.Objs {
		s.Objs[i].Cells = slices.Clone(s.Objs[i].Cells)
	}
	s.Edges = slices.Clone(s.Edges)
	for i := range s.Edges {
		s.Edges[i].Out = slices.Clone(s.Edges[i].Out)
	}
	s.Asks, s.Got = slices.Clone(s.Asks), slices.Clone(s.Got)
	return s
}

// someState draws a state that has an image.
func someState(r *rand.Rand) api.State {
	s := api.State{
		Objs:  make([]api.Own, r.Intn(mostObjs+1)),
		Edges: make([]api.Edge, r.Intn(5)),
		Asks:  make([]api.Ask, r.Intn(mostAsks+1)),
		Got:   make([]api.Found, r.Intn(mostGot+1)),
	}
	for i := range s.Objs {
		s.Objs[i].Cells = make([]api.Cell, r.Intn(4)*r.Intn(4))
	}
	for i := range s.Edges {
		s.Edges[i].Out = make([]api.Msg, r.Intn(4)*r.Intn(4))
		for j := range s.Edges[i].Out {
			s.Edges[i].Out[j].Kind = 1 + r.Intn(4)
		}
	}
	for _, p := range numbersOf(&s) {
		if p.name != "a message's Kind" {
			*p.at = someWithin(r, p.low, p.high)
		}
	}
	for i, e := range s.Edges {
		s.Edges[i].Base = min(e.Base, greatestNum-len(e.Out))
	}
	return s
}

// someWithin draws a number of any length, the edges often.
func someWithin(r *rand.Rand, low, high int) int {
	switch r.Intn(8) {
	case 0:
		return low
	case 1:
		return high
	}
	return low + int(r.Int63n(int64(high-low)+1)>>r.Intn(42))
}

// someGram draws a datagram that can be, with a message or without one.
func someGram(r *rand.Rand) api.Gram {
	g := api.Gram{From: r.Intn(lastNode + 1), Ack: someWithin(r, 0, greatestNum)}
	g.To = (g.From + 1 + r.Intn(lastNode)) % (lastNode + 1)
	if r.Intn(4) == 0 {
		return g
	}
	g.Seq = someWithin(r, 1, greatestNum)
	g.Msg.Kind = 1 + r.Intn(4)
	for _, p := range messageNumbers(&g.Msg)[1:] {
		*p.at = someWithin(r, p.low, p.high)
	}
	return g
}

// someEvent draws an event that has bytes.
func someEvent(r *rand.Rand) api.Event {
	if r.Intn(3) == 0 {
		return api.Event{Kind: 1 + r.Intn(3), Obj: r.Intn(lastObj + 1)}
	}
	return api.Event{Kind: 4, Gram: someGram(r)}
}

// spoilt answers the bytes cut, lengthened and turned here and there; one time in eight as they are.
func spoilt(r *rand.Rand, in string) string {
	b := []byte(in)
	if r.Intn(8) == 0 {
		return in
	}
	for range r.Intn(3) {
		if at := r.Intn(len(b) + 1); at < len(b) {
			b[at] = someByte(r)
		}
	}
	if r.Intn(3) == 0 {
		b = slices.Insert(b, r.Intn(len(b)+1), someByte(r))
	}
	if at := r.Intn(len(b) + 1); r.Intn(3) == 0 && at < len(b) {
		b = slices.Delete(b, at, at+1)
	}
	if r.Intn(3) == 0 {
		b = b[:r.Intn(len(b)+1)]
	}
	for range r.Intn(3) * r.Intn(6) {
		b = append(b, someByte(r))
	}
	return string(b)
}

func someByte(r *rand.Rand) byte {
	return []byte{0x00, 0x01, 0x04, 0x08, 0x20, 0x7f, 0x80, 0xff, 0xff, byte(r.Intn(256))}[r.Intn(10)]
}

// around: the numbers that can make a difference in a place of these edges.
func around(x, low, high int) []int {
	out := []int{math.MinInt, math.MinInt + 1, -1 << 32, -2, -1, 0, 1, 2, 3, 4, 5, 7, 8, 9, 10, 127, 128, 1024, 1025}
	out = append(out, x-1, x, x+1, -x, x+1<<32, low-1, low, low+1, high-1, high, high+1, lastNode, lastNode+1, lastNode+2)
	out = append(out, greatestNum-1, greatestNum, greatestNum+1, 1<<41, math.MaxInt-1, math.MaxInt)
	slices.Sort(out)
	return slices.Compact(out)
}

// brief answers the state without all of its long lists.
func brief(s api.State) api.State {
	s.Edges = slices.Clone(s.Edges)
	for i := range s.Edges {
		s.Edges[i].Out = s.Edges[i].Out[:min(len(s.Edges[i].Out), 4)]
	}
	return s
}

// checkEncode asks Has and Encode, and Decode of the image; it answers which of the chapter's conditions the state breaks.
func checkEncode(t *testing.T, s api.State) []string {
	t.Helper()
	want, wantE := modelEncode(s)
	if got := image.Has(s); got != (wantE == 0) {
		t.Fatalf("Has(%+v): %v, but broken are %q", brief(s), got, broken(s))
	}
	b, e := image.Encode(s)
	if string(b) != want || e != wantE {
		t.Fatalf("Encode(%+v): % x, %d, not % x, %d", brief(s), b[:min(len(b), 99)], e, want[:min(len(want), 99)], wantE)
	}
	if e == api.OK {
		checkState(t, b, s)
	}
	return broken(s)
}

// checkState: Decode of the bytes is the state.
func checkState(t *testing.T, b []byte, s api.State) {
	t.Helper()
	if got, e := image.Decode(b); e != api.OK || !slices.Equal(words(got), words(s)) {
		t.Fatalf("Decode(% x): %+v, %d, not %+v", b[:min(len(b), 99)], brief(got), e, brief(s))
	}
}

// checkDecode: Decode answers as the model does; where it is OK, Encode of the state are the bytes.
func checkDecode(t *testing.T, b string) api.Errno {
	t.Helper()
	got, e := image.Decode([]byte(b))
	want, wantE := modelDecode(b)
	if want == nil {
		want = words(api.State{})
	}
	if e != wantE || !slices.Equal(words(got), want) {
		t.Fatalf("Decode(% x): %+v, %d, not %v, %d", b, brief(got), e, want, wantE)
	}
	if e != api.OK {
		return e
	}
	if back, f := image.Encode(got); f != api.OK || string(back) != b {
		t.Fatalf("Encode of Decode of % x: % x, %d", b, back, f)
	}
	return e
}

func checkEvent(t *testing.T, ev api.Event) api.Errno {
	t.Helper()
	want, wantE := modelEvent(ev)
	b, e := image.Event(ev)
	if string(b) != want || e != wantE {
		t.Fatalf("Event(%+v): % x, %d, not % x, %d", ev, b, e, want, wantE)
	}
	if e != api.OK {
		return e
	}
	if got, f := image.Read(b); got != ev || f != api.OK {
		t.Fatalf("Read(% x): %+v, %d, not %+v", b, got, f, ev)
	}
	return e
}

func checkRead(t *testing.T, b string) api.Errno {
	t.Helper()
	got, e := image.Read([]byte(b))
	if want, wantE := modelRead(b); got != want || e != wantE {
		t.Fatalf("Read(% x): %+v, %d, not %+v, %d", b, got, e, want, wantE)
	}
	if e != api.OK {
		return e
	}
	if back, f := image.Event(got); f != api.OK || string(back) != b {
		t.Fatalf("Event of Read of % x: % x, %d", b, back, f)
	}
	return e
}

// checkTold: each answer was given so often that the test means something.
func checkTold(t *testing.T, told map[api.Errno]int, least int) {
	t.Helper()
	for _, e := range []api.Errno{api.OK, api.ErrShort, api.ErrForm} {
		if told[e] < least {
			t.Errorf("%d was told just %d times", e, told[e])
		}
	}
}

// everyText goes over all texts of up to most of these bytes.
func everyText(of string, most int, visit func(b string)) {
	row := []string{""}
	for n := 0; ; n++ {
		var next []string
		for _, b := range row {
			visit(b)
			for i := range of {
				next = append(next, b+of[i:i+1])
			}
		}
		if n == most {
			return
		}
		row = next
	}
}
