package gram_test

import (
	"math/rand"
	"strings"
	"testing"

	"fletch/api"
	"fletch/gram"
)

// known: datagrams, their fields' bytes and the sums of these, written out, at the edges that the chapter names.
var known = []struct {
	g           api.Gram
	fields, sum string
}{
	{api.Gram{From: 0, To: 1, Ack: 2}, "\x00\x01\x02\x00", "\xa9\xd7\xb0\x12"},
	{api.Gram{From: 1, To: 0}, "\x01\x00\x00\x00", "\x79\xb8\xf8\x99"},
	{api.Gram{From: 31, To: 30, Ack: 1 << 40}, "\x1f\x1e\x80\x80\x80\x80\x80\x20\x00", "\xb6\x7d\xe9\x42"},
	{api.Gram{From: 0, To: 31, Ack: 127}, "\x00\x1f\x7f\x00", "\x68\x5e\x99\x9e"},
	{api.Gram{From: 30, To: 31, Ack: 128}, "\x1e\x1f\x80\x01\x00", "\xf6\xb3\xa6\xe9"},
	{api.Gram{From: 3, To: 1, Seq: 7, Msg: api.Msg{Kind: api.Find, Obj: 2, Node: 3, Num: 300}},
		"\x03\x01\x00\x07\x01\x02\x03\xac\x02", "\xe6\xd5\xb8\x77"},
	{api.Gram{From: 1, To: 3, Ack: 5, Seq: 1, Msg: api.Msg{Kind: api.Tell, Obj: 0, Node: 1, Num: 1, Where: 5}},
		"\x01\x03\x05\x01\x04\x00\x01\x01\x05", "\x35\xf2\xaa\x7b"},
	{api.Gram{From: 0, To: 1, Seq: 1, Msg: api.Msg{Kind: api.Pass, Num: 1}},
		"\x00\x01\x00\x01\x02\x00\x00\x01", "\x70\x05\x3b\x23"},
	{api.Gram{From: 31, To: 0, Ack: 1<<40 - 1, Seq: 1<<40 - 1, Msg: api.Msg{Kind: api.Seek, Obj: 7, Node: 31, Num: 1 << 40}},
		"\x1f\x00\xff\xff\xff\xff\xff\x1f\xff\xff\xff\xff\xff\x1f\x03\x07\x1f\x80\x80\x80\x80\x80\x20", "\x40\xf1\xe5\x2e"},
	{api.Gram{From: 0, To: 31, Ack: 1 << 40, Seq: 1 << 40, Msg: api.Msg{Kind: api.Tell, Obj: 7, Node: 31, Num: 1 << 40, Where: 31}},
		"\x00\x1f\x80\x80\x80\x80\x80\x20\x80\x80\x80\x80\x80\x20\x04\x07\x1f\x80\x80\x80\x80\x80\x20\x1f", "\x62\x14\x4c\xf4"},
	{api.Gram{From: 2, To: 5, Ack: 300, Seq: 128, Msg: api.Msg{Kind: api.Tell, Num: 1}},
		"\x02\x05\xac\x02\x80\x01\x04\x00\x00\x01\x00", "\x3a\x1b\xa6\x3a"},
}

// cannot: datagrams of which one field alone is beyond what can be.
var cannot = []api.Gram{
	{},
	{From: 5, To: 5},
	{From: 31, To: 31, Seq: 1, Msg: api.Msg{Kind: api.Find, Num: 1}},
	{From: -1, To: 1},
	{From: 32, To: 1},
	{From: 1, To: -1},
	{From: 1, To: 32},
	{To: 1, Ack: -1},
	{To: 1, Ack: 1<<40 + 1},
	{To: 1, Seq: -1},
	{To: 1, Seq: -1, Msg: api.Msg{Kind: api.Find, Num: 1}},
	{To: 1, Seq: 1<<40 + 1, Msg: api.Msg{Kind: api.Find, Num: 1}},
	{To: 1, Seq: 1},
	{To: 1, Seq: 1, Msg: api.Msg{Kind: api.Find}},
	{To: 1, Seq: 1, Msg: api.Msg{Kind: 5, Num: 1}},
	{To: 1, Seq: 1, Msg: api.Msg{Kind: api.Find, Num: 1, Where: 1}},
	{To: 1, Seq: 1, Msg: api.Msg{Kind: api.Tell, Num: 1, Where: 32}},
	{To: 1, Msg: api.Msg{Kind: api.Find, Num: 1}},
	{To: 1, Msg: api.Msg{Kind: api.Tell, Num: 1, Where: 1}},
	{To: 1, Msg: api.Msg{Kind: 1}},
	{To: 1, Msg: api.Msg{Obj: 1}},
	{To: 1, Msg: api.Msg{Node: 1}},
	{To: 1, Msg: api.Msg{Num: 1}},
	{To: 1, Msg: api.Msg{Where: 1}},
}

var tails = []string{"", "\x00", "\x05", "\x80", "\x80\x00", "\xff\xff\xff\xff\xff\xff\xff\xff\xff", "\x01\x00\x00\x01"}

func take(b string) taken {
	g, n, e := gram.Take([]byte(b))
	return taken{g, n, e}
}

func decode(b string) decoded {
	g, e := gram.Decode([]byte(b))
	return decoded{g, e}
}

func checkEncode(t *testing.T, g api.Gram, want string) {
	t.Helper()
	b, e := gram.Encode(g)
	if string(b) != want || e != api.OK {
		t.Fatalf("Encode(%+v): % x, %d, not % x", g, b, e, want)
	}
}

// P9.1: known datagrams, there and back, by their written-out bytes; Take's alone and with bytes behind.
func TestKnownDatagrams(t *testing.T) {
	for _, c := range known {
		if !gram.Valid(c.g) {
			t.Errorf("Valid(%+v): false", c.g)
		}
		if got := gram.Put(nil, c.g); string(got) != c.fields {
			t.Errorf("Put(nil, %+v): % x, not % x", c.g, got, c.fields)
		}
		for _, tail := range tails {
			if got, want := take(c.fields+tail), (taken{c.g, len(c.fields), api.OK}); got != want {
				t.Errorf("Take(% x): %+v, not %+v", c.fields+tail, got, want)
			}
		}
		checkEncode(t, c.g, c.fields+c.sum)
		if got, want := decode(c.fields+c.sum), (decoded{c.g, api.OK}); got != want {
			t.Errorf("Decode(% x): %+v, not %+v", c.fields+c.sum, got, want)
		}
	}
}

// P9.1: datagrams that can't be: Put answers b's bytes alone, Encode ErrArg and no bytes.
func TestDatagramsThatCannotBe(t *testing.T) {
	for _, g := range cannot {
		if gram.Valid(g) {
			t.Errorf("Valid(%+v): true", g)
		}
		for _, b := range []string{"", "a", "ab\x80"} {
			if got := gram.Put([]byte(b), g); string(got) != b {
				t.Errorf("Put(%q, %+v): %q", b, g, got)
			}
		}
		if got := gram.Put(nil, g); len(got) != 0 {
			t.Errorf("Put(nil, %+v): %q", g, got)
		}
		if b, e := gram.Encode(g); len(b) != 0 || e != api.ErrArg {
			t.Errorf("Encode(%+v): % x, %d", g, b, e)
		}
	}
}

// P9.1: Valid, Put and Encode on both sides of each limit, in all combinations.
func TestEdgesOfDatagrams(t *testing.T) {
	could := 0
	for g := range edgeGrams {
		want := modelValid(g)
		if got := gram.Valid(g); got != want {
			t.Fatalf("Valid(%+v): %v, not %v", g, got, want)
		}
		if !want {
			if b, e := gram.Encode(g); len(b) != 0 || e != api.ErrArg {
				t.Fatalf("Encode(%+v): % x, %d", g, b, e)
			}
			if got := gram.Put([]byte("b"), g); string(got) != "b" {
				t.Fatalf("Put of %+v: % x", g, got)
			}
			continue
		}
		could++
		if got := gram.Put([]byte("b"), g); string(got) != "b"+modelFields(g) {
			t.Fatalf("Put of %+v: % x, not % x", g, got, "b"+modelFields(g))
		}
		checkEncode(t, g, summed(modelFields(g)))
	}
	if could < 1000 {
		t.Errorf("just %d of the datagrams can be", could)
	}
}

// P9.1: Put behind other bytes, whatever they are.
func TestPutBehindOthers(t *testing.T) {
	var b []byte
	want := ""
	for _, c := range known {
		b = gram.Put(b, c.g)
		want += c.fields
		if string(b) != want {
			t.Fatalf("Put of %+v behind others: % x, not % x", c.g, b, want)
		}
	}
	for _, front := range []string{"\x80", "\xff\xff", "\x04", "\x00\x80\x00"} {
		if got := gram.Put([]byte(front), known[5].g); string(got) != front+known[5].fields {
			t.Errorf("Put behind % x: % x", front, got)
		}
	}
}

// P9.1: fields that end too early are ErrShort for Take, wherever they are cut; with a sum behind ErrForm for Decode.
func TestCutShort(t *testing.T) {
	for _, c := range known {
		for n := range len(c.fields) {
			if got, want := take(c.fields[:n]), (taken{e: api.ErrShort}); got != want {
				t.Errorf("Take(% x): %+v, not %+v", c.fields[:n], got, want)
			}
			if got, want := decode(summed(c.fields[:n])), (decoded{e: api.ErrForm}); got != want {
				t.Errorf("Decode(% x): %+v, not %+v", summed(c.fields[:n]), got, want)
			}
		}
	}
	if got := take(""); got != (taken{e: api.ErrShort}) {
		t.Errorf("Take of nothing: %+v", got)
	}
}

// P9.1: all numbers are read, and the message, ahead of the question whether the datagram can be; a message's own errors come ahead of it.
func TestWhatTakeTellsFirst(t *testing.T) {
	nines := strings.Repeat("\xff", 9)
	for _, c := range []struct {
		in string
		e  api.Errno
	}{
		{"\x05\x05", api.ErrShort},
		{"\x05\x05\x00", api.ErrShort},
		{"\x05\x05\x00\x00", api.ErrForm},
		{"\x20\x00\x00\x80", api.ErrShort},
		{"\x20\x00\x00\x80\x00", api.ErrForm},
		{"\x20\x00\x00\x00", api.ErrForm},
		{"\x00\x20\x00\x00", api.ErrForm},
		{"\x1f\x20\x00\x01", api.ErrShort},
		{"\x1f\x20\x00\x01\x01\x00\x00", api.ErrShort},
		{"\x1f\x20\x00\x01\x01\x00\x00\x01", api.ErrForm},
		{"\x00\x00\x00\x01\x04\x00\x00\x01", api.ErrShort},
		{"\x00\x00\x00\x01\x04\x00\x00\x01\x00", api.ErrForm},
		{"\x00\x01\x81\x80\x80\x80\x80\x20", api.ErrShort},
		{"\x00\x01\x81\x80\x80\x80\x80\x20\x00", api.ErrForm},
		{"\x00\x01\x00\x81\x80\x80\x80\x80\x20", api.ErrShort},
		{"\x00\x01\x00\x81\x80\x80\x80\x80\x20\x01\x00\x00\x01", api.ErrForm},
		{"\x00\x01\x00" + nines[1:] + "\x7f", api.ErrShort},
		{"\x00\x01\x00" + nines[1:] + "\x7f\x01\x00\x00\x01", api.ErrForm},
		{"\x00\x01\x00\x01", api.ErrShort},
		{"\x00\x01\x00\x01\x05", api.ErrShort},
		{"\x00\x01\x00\x01\x05\x00\x00\x01", api.ErrForm},
		{"\x00\x01\x00\x01\x00\x00\x00\x00", api.ErrForm},
		{"\x00\x01\x00\x01\x01\x80\x00", api.ErrForm},
		{"\x00\x01\x00\x01\x01\x08\x00\x01", api.ErrForm},
		{"\x00\x01\x00\x01\x01\x00\x20\x01", api.ErrForm},
		{"\x00\x01\x00\x01\x01\x00\x00\x00", api.ErrForm},
		{"\x00\x01\x00\x01\x04\x00\x00\x01\x20", api.ErrForm},
		{"\x80", api.ErrShort},
		{"\x80\x00", api.ErrForm},
		{"\x00\x80\x00", api.ErrForm},
		{"\x00\x01\x80\x00", api.ErrForm},
		{"\x00\x01\x00\x80\x00", api.ErrForm},
		{nines[1:], api.ErrShort},
		{nines, api.ErrForm},
		{"\x00" + nines[1:], api.ErrShort},
		{"\x00" + nines, api.ErrForm},
		{"\x00\x01" + nines[1:], api.ErrShort},
		{"\x00\x01" + nines, api.ErrForm},
		{"\x00\x01\x00" + nines[1:], api.ErrShort},
		{"\x00\x01\x00" + nines, api.ErrForm},
		{"\x00\x01\x00\x01" + nines[1:], api.ErrShort},
		{"\x00\x01\x00\x01" + nines, api.ErrForm},
	} {
		if got, want := take(c.in), (taken{e: c.e}); got != want {
			t.Errorf("Take(% x): %+v, not %+v", c.in, got, want)
		}
	}
}

// P9.1: Take of all short bytes out of those that make a difference, and of many longer ones, as the model says.
func TestTakeOfManyBytes(t *testing.T) {
	told := map[api.Errno]int{}
	check := func(b string) {
		got, want := take(b), modelTake(b)
		if got != want {
			t.Fatalf("Take(% x): %+v, not %+v", b, got, want)
		}
		told[got.e]++
	}
	row := []string{""}
	for range 6 {
		var next []string
		for _, b := range row {
			check(b)
			check("\x00\x01\x00\x01" + b)
			for _, c := range "\x00\x01\x04\x05\x1f\x20\x7f" {
				next = append(next, b+string(c))
			}
			next = append(next, b+"\x80", b+"\xff")
		}
		row = next
	}
	r := rand.New(rand.NewSource(1))
	for range 300000 {
		check(someBytes(r))
	}
	for _, e := range []api.Errno{api.OK, api.ErrShort, api.ErrForm} {
		if told[e] < 1000 {
			t.Errorf("%d was told just %d times", e, told[e])
		}
	}
}

// P9.1: what Decode tells first: too few bytes, then the sum, then the form.
func TestWhatDecodeTellsFirst(t *testing.T) {
	for _, c := range []struct {
		in string
		e  api.Errno
	}{
		{"", api.ErrShort},
		{"\x00", api.ErrShort},
		{"\x00\x00", api.ErrShort},
		{"\x00\x00\x00", api.ErrShort},
		{"\xff\xff\xff", api.ErrShort},
		{"\x00\x00\x00\x00", api.ErrForm}, // the sum of nothing is 0
		{"\x00\x00\x00\x01", api.ErrSum},
		{"\x01\x00\x00\x00", api.ErrSum},
		{"\x00\x00\x00\x00\x00\x00\x00\x00", api.ErrSum},
		{"\x00\x01\x02\x00", api.ErrSum},
		{"\x00\x01\x02\x00\x12\xb0\xd7\xa9", api.ErrSum}, // the highest first
		{"\x00\x01\x02\x00\xa9\xd7\xb0\x12\x00", api.ErrSum},
		{"\xa9\xd7\xb0\x12\x00\x01\x02\x00", api.ErrSum},
		{summed("\x00\x01\x02\x00\x00"), api.ErrForm},
		{summed("\x00\x01\x02\x00\x80"), api.ErrForm},
		{summed("\x00\x01\x02\x00\x01\x00\x00\x01"), api.ErrForm},
		{summed("\x00\x01\x02\x01\x01\x00\x00\x01\x00"), api.ErrForm},
		{summed("\x00\x01\x02\x01\x04\x00\x00\x01\x00\x00"), api.ErrForm},
		{summed("\x00\x01\x02"), api.ErrForm},
		{summed("\x00\x01\x02\x01"), api.ErrForm},
		{summed("\x01\x01\x02\x00"), api.ErrForm},
		{summed("\x00\x20\x02\x00"), api.ErrForm},
		{summed("\x00\x01\x80\x00\x00"), api.ErrForm},
		{summed(summed("\x00\x01\x02\x00")), api.ErrForm},
	} {
		if got, want := decode(c.in), (decoded{e: c.e}); got != want {
			t.Errorf("Decode(% x): %+v, not %+v", c.in, got, want)
		}
	}
}

// P9.1: Decode of many bytes, with their sum, with another one and without one, as the model says.
func TestDecodeOfManyBytes(t *testing.T) {
	r := rand.New(rand.NewSource(2))
	told := map[api.Errno]int{}
	for range 300000 {
		b := someBytes(r)
		if r.Intn(3) > 0 {
			b = summed(b)
		}
		if at := r.Intn(len(b) + 1); r.Intn(5) == 0 && at < len(b) {
			b = b[:at] + string([]byte{byte(r.Intn(256))}) + b[at+1:]
		}
		got, want := decode(b), modelDecode(b)
		if got != want {
			t.Fatalf("Decode(% x): %+v, not %+v", b, got, want)
		}
		told[got.e]++
	}
	for _, e := range []api.Errno{api.OK, api.ErrShort, api.ErrForm, api.ErrSum} {
		if told[e] < 1000 {
			t.Errorf("%d was told just %d times", e, told[e])
		}
	}
}

// P9.2: Decode of Encode's answer is the datagram; Take of Put's is, whatever stands behind.
func TestThereAndBack(t *testing.T) {
	r := rand.New(rand.NewSource(3))
	check := func(g api.Gram) {
		b, e := gram.Encode(g)
		if got := decode(string(b)); e != api.OK || got != (decoded{g, api.OK}) {
			t.Fatalf("Decode of Encode of %+v: %+v", g, got)
		}
		fields := gram.Put(nil, g)
		if got, want := take(string(fields)+someBytes(r)), (taken{g, len(fields), api.OK}); got != want {
			t.Fatalf("Take of Put: %+v, not %+v", got, want)
		}
	}
	for g := range edgeGrams {
		if modelValid(g) {
			check(g)
		}
	}
	for range 50000 {
		check(someGram(r))
	}
}

// P9.2: where Decode answers OK, Encode of what it answers are the bytes; so it is with Take and Put.
func TestBackAndThere(t *testing.T) {
	r := rand.New(rand.NewSource(4))
	whole, fronts := 0, 0
	for range 300000 {
		b := someBytes(r)
		if got := take(b); got.e == api.OK {
			fronts++
			if !gram.Valid(got.g) || string(gram.Put(nil, got.g)) != b[:got.n] {
				t.Fatalf("Take(% x): %+v, whose fields' bytes are % x", b, got, gram.Put(nil, got.g))
			}
		}
		if got := decode(summed(b)); got.e == api.OK {
			whole++
			checkEncode(t, got.g, summed(b))
		}
	}
	if whole < 1000 || fronts <= whole {
		t.Errorf("just %d were datagrams, %d began with one's fields", whole, fronts)
	}
}

// P9.1: the fields of several datagrams one behind the other are taken in their order.
func TestRowOfDatagrams(t *testing.T) {
	r := rand.New(rand.NewSource(5))
	for range 500 {
		var b []byte
		var row []api.Gram
		for range r.Intn(20) {
			g := someGram(r)
			row = append(row, g)
			b = gram.Put(b, g)
		}
		for _, g := range row {
			got := take(string(b))
			if got.e != api.OK || got.g != g {
				t.Fatalf("Take(% x): %+v, not %+v", b, got, g)
			}
			b = b[got.n:]
		}
		if len(b) != 0 {
			t.Fatalf("% x are left", b)
		}
	}
}
