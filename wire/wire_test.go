package wire_test

import (
	"math/rand"
	"strings"
	"testing"

	"fletch/api"
	"fletch/wire"
)

// known: messages and their bytes, written out, at the edges that the chapter names.
var known = []struct {
	m  api.Msg
	in string
}{
	{api.Msg{Kind: api.Find, Obj: 2, Node: 3, Num: 300}, "\x01\x02\x03\xac\x02"},
	{api.Msg{Kind: api.Tell, Obj: 0, Node: 1, Num: 1, Where: 5}, "\x04\x00\x01\x01\x05"},
	{api.Msg{Kind: api.Find, Obj: 0, Node: 0, Num: 1}, "\x01\x00\x00\x01"},
	{api.Msg{Kind: api.Find, Obj: 7, Node: 31, Num: 1 << 40}, "\x01\x07\x1f\x80\x80\x80\x80\x80\x20"},
	{api.Msg{Kind: api.Pass, Obj: 0, Node: 31, Num: 127}, "\x02\x00\x1f\x7f"},
	{api.Msg{Kind: api.Pass, Obj: 7, Node: 0, Num: 128}, "\x02\x07\x00\x80\x01"},
	{api.Msg{Kind: api.Seek, Obj: 1, Node: 2, Num: 3}, "\x03\x01\x02\x03"},
	{api.Msg{Kind: api.Seek, Obj: 7, Node: 31, Num: 1<<40 - 1}, "\x03\x07\x1f\xff\xff\xff\xff\xff\x1f"},
	{api.Msg{Kind: api.Tell, Obj: 0, Node: 0, Num: 1, Where: 0}, "\x04\x00\x00\x01\x00"},
	{api.Msg{Kind: api.Tell, Obj: 7, Node: 31, Num: 1 << 40, Where: 31}, "\x04\x07\x1f\x80\x80\x80\x80\x80\x20\x1f"},
}

// cannot: messages of which one field alone is beyond what can be.
var cannot = []api.Msg{
	{},
	{Kind: 0, Num: 1},
	{Kind: -1, Num: 1},
	{Kind: 5, Num: 1},
	{Kind: api.Find, Obj: -1, Num: 1},
	{Kind: api.Find, Obj: 8, Num: 1},
	{Kind: api.Pass, Node: -1, Num: 1},
	{Kind: api.Pass, Node: 32, Num: 1},
	{Kind: api.Seek, Num: 0},
	{Kind: api.Seek, Num: -1},
	{Kind: api.Seek, Num: 1<<40 + 1},
	{Kind: api.Find, Num: 1, Where: 1},
	{Kind: api.Pass, Num: 1, Where: 31},
	{Kind: api.Seek, Num: 1, Where: -1},
	{Kind: api.Tell, Num: 1, Where: -1},
	{Kind: api.Tell, Num: 1, Where: 32},
}

func take(b []byte) taken {
	m, n, e := wire.Take(b)
	return taken{m, n, e}
}

// P8.1: known messages, there and back, by their written-out bytes; alone and with bytes behind.
func TestKnownMessages(t *testing.T) {
	for _, c := range known {
		if !wire.Valid(c.m) {
			t.Errorf("Valid(%+v): false", c.m)
		}
		if got := wire.Put(nil, c.m); string(got) != c.in {
			t.Errorf("Put(nil, %+v): % x, not % x", c.m, got, c.in)
		}
		for _, tail := range []string{"", "\x00", "\x05", "\x80", "\x80\x00", "\xff\xff\xff\xff\xff\xff\xff\xff\xff", c.in} {
			if got, want := take([]byte(c.in+tail)), (taken{c.m, len(c.in), api.OK}); got != want {
				t.Errorf("Take(% x): %+v, not %+v", c.in+tail, got, want)
			}
		}
	}
}

// P8.1: messages that can't be: Put answers b's bytes alone.
func TestMessagesThatCannotBe(t *testing.T) {
	for _, m := range cannot {
		if wire.Valid(m) {
			t.Errorf("Valid(%+v): true", m)
		}
		for _, b := range []string{"", "a", "ab\x80"} {
			if got := wire.Put([]byte(b), m); string(got) != b {
				t.Errorf("Put(%q, %+v): %q", b, m, got)
			}
		}
		if got := wire.Put(nil, m); len(got) != 0 {
			t.Errorf("Put(nil, %+v): %q", m, got)
		}
	}
}

// P8.1: Valid and Put on both sides of each limit, in all combinations.
func TestEdgesOfMessages(t *testing.T) {
	could := 0
	for m := range edgeMessages {
		want := modelValid(m)
		if got := wire.Valid(m); got != want {
			t.Fatalf("Valid(%+v): %v, not %v", m, got, want)
		}
		if got := wire.Put([]byte("b"), m); string(got) != "b"+modelBytes(m) {
			t.Fatalf("Put of %+v: % x, not % x", m, got, "b"+modelBytes(m))
		}
		if want {
			could++
		}
	}
	if could < 1000 {
		t.Errorf("just %d of the messages can be", could)
	}
}

// P8.1: Put behind other bytes, whatever they are.
func TestPutBehindOthers(t *testing.T) {
	var b []byte
	want := ""
	for _, c := range known {
		b = wire.Put(b, c.m)
		want += c.in
		if string(b) != want {
			t.Fatalf("Put of %+v behind others: % x, not % x", c.m, b, want)
		}
	}
	for _, front := range []string{"\x80", "\xff\xff", "\x04", "\x00\x80\x00"} {
		if got := wire.Put([]byte(front), known[0].m); string(got) != front+known[0].in {
			t.Errorf("Put behind % x: % x", front, got)
		}
	}
}

// P8.1: a message that ends too early is ErrShort, wherever it is cut.
func TestCutShort(t *testing.T) {
	for _, c := range known {
		for n := range len(c.in) {
			if got, want := take([]byte(c.in[:n])), (taken{e: api.ErrShort}); got != want {
				t.Errorf("Take(% x): %+v, not %+v", c.in[:n], got, want)
			}
		}
	}
	if got := take(nil); got != (taken{e: api.ErrShort}) {
		t.Errorf("Take(nil): %+v", got)
	}
}

// P8.1: all numbers are read ahead of the question whether the message can be; what no number begins with is told as Fault tells it.
func TestWhatIsToldFirst(t *testing.T) {
	nines := strings.Repeat("\xff", 9)
	for _, c := range []struct {
		in string
		e  api.Errno
	}{
		{"\x01\x02\x03", api.ErrShort},
		{"\x05\x00\x00\x01", api.ErrForm},
		{"\x01\x80\x00", api.ErrForm},
		{"\x01\x02\x03\x00", api.ErrForm},
		{"\x05", api.ErrShort},
		{"\x05\x00\x00", api.ErrShort},
		{"\x05\x00\x00\x80", api.ErrShort},
		{"\x05\x00\x00\x80\x00", api.ErrForm},
		{"\x00\x00\x00\x01", api.ErrForm},
		{"\x00\x08\x20\x00", api.ErrForm},
		{"\x01\x08", api.ErrShort},
		{"\x01\x08\x00\x01", api.ErrForm},
		{"\x02\x00\x20\x80", api.ErrShort},
		{"\x02\x00\x20\x01", api.ErrForm},
		{"\x03\x00\x00\x00", api.ErrForm},
		{"\x03\x00\x00\x81\x80\x80\x80\x80\x20", api.ErrForm},
		{"\x04\x00\x00\x00", api.ErrShort},
		{"\x04\x00\x00\x00\x00", api.ErrForm},
		{"\x04\x08\x20\x00\x80", api.ErrShort},
		{"\x04\x00\x00\x01\x20", api.ErrForm},
		{"\x04\x00\x00\x01\x80\x00", api.ErrForm},
		{"\x04\x00\x00\x01" + nines[1:], api.ErrShort},
		{"\x04\x00\x00\x01" + nines, api.ErrForm},
		{"\x84\x00\x00\x00\x01", api.ErrForm},
		{"\x84\x80\x00\x00\x01", api.ErrForm},
		{"\x84\x02\x00\x00\x01\x00", api.ErrForm},
		{nines[1:], api.ErrShort},
		{nines, api.ErrForm},
		{nines + "\x01", api.ErrForm},
		{nines[1:] + "\x7f\x00\x00", api.ErrShort},
		{nines[1:] + "\x7f\x00\x00\x01", api.ErrForm},
		{"\x01\x02\x03" + nines[1:], api.ErrShort},
		{"\x01\x02\x03" + nines, api.ErrForm},
		{"\x01\x02\x03" + nines[1:] + "\x7f", api.ErrForm},
	} {
		if got, want := take([]byte(c.in)), (taken{e: c.e}); got != want {
			t.Errorf("Take(% x): %+v, not %+v", c.in, got, want)
		}
	}
}

// P8.1: Take of all short bytes out of those that make a difference, and of many longer ones, as the model says.
func TestTakeOfManyBytes(t *testing.T) {
	told := map[api.Errno]int{}
	check := func(b string) {
		got, want := take([]byte(b)), modelTake(b)
		if got != want {
			t.Fatalf("Take(% x): %+v, not %+v", b, got, want)
		}
		told[got.e]++
	}
	row := []string{""}
	for range 6 {
		var next []string
		for _, b := range row {
			check(b)
			for _, c := range "\x00\x01\x04\x05\x08\x1f\x20\x7f" {
				next = append(next, b+string(c))
			}
			next = append(next, b+"\x80", b+"\xff")
		}
		row = next
	}
	r := rand.New(rand.NewSource(1))
	for range 300000 {
		check(someBytes(r))
	}
	for _, e := range []api.Errno{api.OK, api.ErrShort, api.ErrForm} {
		if told[e] < 1000 {
			t.Errorf("%d was told just %d times", e, told[e])
		}
	}
}

// P8.1: Fault of any bytes: up to twelve, each kind of byte at each place among those of 128 or above.
func TestFault(t *testing.T) {
	for n := range 13 {
		for _, head := range []string{"\x80", "\x81", "\xff"} {
			b := []byte(strings.Repeat(head, n))
			want := api.Errno(api.ErrForm)
			if n <= 8 {
				want = api.ErrShort
			}
			if got := wire.Fault(b); got != want {
				t.Errorf("Fault(% x): %d, not %d", b, got, want)
			}
			for at := range n {
				for c := range 256 {
					b[at] = byte(c)
					if got, want := wire.Fault(b), modelFault(string(b)); got != want {
						t.Fatalf("Fault(% x): %d, not %d", b, got, want)
					}
					if c < 128 && wire.Fault(b) != api.ErrForm {
						t.Fatalf("Fault(% x): not ErrForm", b)
					}
				}
				b[at] = head[0]
			}
		}
	}
	if wire.Fault(nil) != api.ErrShort {
		t.Error("Fault(nil)")
	}
	r := rand.New(rand.NewSource(2))
	for range 20000 {
		b := someBytes(r)
		if got, want := wire.Fault([]byte(b)), modelFault(b); got != want {
			t.Fatalf("Fault(% x): %d, not %d", b, got, want)
		}
	}
	if wire.Fault([]byte(strings.Repeat("\x80", 1<<20))) != api.ErrForm {
		t.Error("Fault of a million bytes")
	}
}

// P8.1: what Fault says of bytes is so: just those of ErrShort become a number, by bytes behind them.
func TestFaultTellsWhatCanBecome(t *testing.T) {
	r := rand.New(rand.NewSource(3))
	for range 20000 {
		b := someBytes(r)
		if _, n := modelNumber(b); n > 0 {
			continue
		}
		_, n := modelNumber(b + "\x01")
		if got := wire.Fault([]byte(b)); (got == api.ErrShort) != (n > 0) {
			t.Fatalf("Fault(% x): %d, but with 01 behind there is a number of %d bytes", b, got, n)
		}
	}
}

// P8.2: Take of what Put made, whatever stands behind, is the message and its bytes.
func TestThereAndBack(t *testing.T) {
	r := rand.New(rand.NewSource(4))
	for range 50000 {
		m := someMessage(r)
		b := wire.Put(nil, m)
		if got, want := take(append(b, someBytes(r)...)), (taken{m, len(b), api.OK}); got != want {
			t.Fatalf("Take of Put: %+v, not %+v", got, want)
		}
	}
	for m := range edgeMessages {
		if b := wire.Put(nil, m); len(b) > 0 {
			if got, want := take(b), (taken{m, len(b), api.OK}); got != want {
				t.Fatalf("Take of Put: %+v, not %+v", got, want)
			}
		}
	}
}

// P8.2: where Take answers OK, the bytes it took are those of the message, which can be.
func TestBackAndThere(t *testing.T) {
	r := rand.New(rand.NewSource(5))
	count := 0
	for range 300000 {
		b := someBytes(r)
		got := take([]byte(b))
		if got.e != api.OK {
			continue
		}
		count++
		if !wire.Valid(got.m) || string(wire.Put(nil, got.m)) != b[:got.n] {
			t.Fatalf("Take(% x): %+v, whose bytes are % x", b, got, wire.Put(nil, got.m))
		}
	}
	if count < 1000 {
		t.Errorf("just %d were messages", count)
	}
}

// P8.2: messages one behind the other are taken in their order.
func TestRowOfMessages(t *testing.T) {
	r := rand.New(rand.NewSource(6))
	for range 500 {
		var b []byte
		var row []api.Msg
		for range r.Intn(20) {
			m := someMessage(r)
			row = append(row, m)
			b = wire.Put(b, m)
		}
		for _, m := range row {
			got := take(b)
			if got.e != api.OK || got.m != m {
				t.Fatalf("Take(% x): %+v, not %+v", b, got, m)
			}
			b = b[got.n:]
		}
		if len(b) != 0 {
			t.Fatalf("% x are left", b)
		}
	}
}
