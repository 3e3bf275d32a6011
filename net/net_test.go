package net_test

import (
	"fmt"
	"math/rand"
	"strings"
	"testing"

	"fletch/api"
	"fletch/net"
)

// P10.1: the chapter's example.
func TestExample(t *testing.T) {
	n := net.New()
	if !n.Send([]byte("a")) || !n.Send([]byte("b")) || !n.Double(0) {
		t.Error("Send, Send, Double(0): not all true")
	}
	checkOver(t, "All", n.All(), []string{"a", "b", "a"})
	if b, ok := n.Take(1); string(b) != "b" || !ok {
		t.Errorf("Take(1): %q, %v", b, ok)
	}
	if b, ok := n.At(1); string(b) != "a" || !ok {
		t.Errorf("At(1): %q, %v", b, ok)
	}
	if b, ok := n.At(2); len(b) != 0 || ok {
		t.Errorf("At(2): %q, %v", b, ok)
	}
	if n.Len() != 2 {
		t.Errorf("Len: %d", n.Len())
	}
}

// P10.1: in a new net nothing is under way, and nothing can be taken or doubled.
func TestNewNet(t *testing.T) {
	n, m := net.New(), &model{}
	checkNet(t, n, m)
	for _, i := range noPlaces(0) {
		do(t, n, m, call{name: "Take", i: i})
		do(t, n, m, call{name: "Double", i: i})
	}
	checkNet(t, n, m)
}

// P10.1: of several, each that is taken leaves the others in their order, and what is sent then comes behind them.
func TestTakenAtEachPlace(t *testing.T) {
	for _, many := range fillings() {
		for i := 0; i < many; i += 1 + many/20 {
			n, m := filled(t, many)
			do(t, n, m, call{name: "Take", i: i})
			checkNet(t, n, m)
			do(t, n, m, call{name: "Send", b: "behind"})
			checkNet(t, n, m)
		}
	}
}

// P10.1: each is doubled behind the others, not beside where it stands; there may be any number of it.
func TestDoubledAtEachPlace(t *testing.T) {
	for _, many := range fillings() {
		for i := 0; i < many; i += 1 + many/20 {
			n, m := filled(t, many)
			for range 3 {
				do(t, n, m, call{name: "Double", i: i})
				checkNet(t, n, m)
			}
			do(t, n, m, call{name: "Take", i: i})
			checkNet(t, n, m)
		}
	}
}

// P10.1: at places at which there is none nothing is taken and nothing doubled.
func TestNoSuchPlace(t *testing.T) {
	for _, many := range fillings() {
		n, m := filled(t, many)
		for _, i := range noPlaces(many) {
			for _, name := range []string{"Double", "Take", "At"} {
				do(t, n, m, call{name: name, i: i})
			}
		}
		if len(m.list) != many {
			t.Fatalf("%d of %d are left", len(m.list), many)
		}
		checkNet(t, n, m)
	}
}

// P10.1: every row of five calls out of seven.
func TestEveryRowOfCalls(t *testing.T) {
	all := []call{
		{name: "Send", b: "a"}, {name: "Send", b: "bc"},
		{name: "Take", i: 0}, {name: "Take", i: 1}, {name: "Take", i: 2},
		{name: "Double", i: 0}, {name: "Double", i: 1},
	}
	row := make([]call, 5)
	var play func(at int)
	play = func(at int) {
		if at < len(row) {
			for _, c := range all {
				row[at] = c
				play(at + 1)
			}
			return
		}
		n, m := net.New(), &model{}
		for _, c := range row {
			do(t, n, m, c)
		}
		checkNet(t, n, m)
	}
	play(0)
}

// P10.1: any calls in any order, around few and around as many as there can be.
func TestAnyCalls(t *testing.T) {
	r := rand.New(rand.NewSource(1))
	for _, full := range []int{0, 1, 2, 5, 50, api.MaxFlight - 2, api.MaxFlight, api.MaxFlight + 1} {
		n, m := filled(t, min(full, api.MaxFlight))
		greatest := 0
		for i := range 6000 {
			do(t, n, m, anyCall(r, m, full))
			greatest = max(greatest, len(m.list))
			if i%(1+full) == 0 {
				checkNet(t, n, m)
			}
		}
		checkNet(t, n, m)
		if greatest < min(full, api.MaxFlight) {
			t.Errorf("at most %d were under way, not %d", greatest, full)
		}
	}
}

// P10.1: 512 have room; one more is lost, sent or doubled, and the others don't see it.
func TestNoRoom(t *testing.T) {
	n, m := net.New(), &model{}
	for i := range 512 {
		if !n.Send([]byte(fmt.Sprint(i))) {
			t.Fatalf("Send of the datagram behind %d others: false", i)
		}
		m.send(fmt.Sprint(i))
	}
	for range 2 {
		for _, b := range []string{"", "lost", strings.Repeat("long", 10000)} {
			if n.Send([]byte(b)) {
				t.Errorf("Send(%.20q) behind 512: true", b)
			}
		}
		for _, i := range []int{0, 1, 256, 510, 511, 512, -1} {
			if n.Double(i) {
				t.Errorf("Double(%d) behind 512: true", i)
			}
		}
		checkNet(t, n, m)
	}
}

// P10.1: what is taken out makes room for just one, by Send or by Double.
func TestRoomAgain(t *testing.T) {
	for _, i := range []int{0, 1, 255, 256, 510, 511} {
		for _, c := range []call{{name: "Send", b: "one more"}, {name: "Double", i: 0}, {name: "Double", i: 510}} {
			n, m := filled(t, api.MaxFlight)
			do(t, n, m, call{name: "Take", i: i})
			if got := c.onNet(n); got != (told{ok: true}) || c.onModel(m) != got {
				t.Errorf("%v into the room of one: %v", c, got)
			}
			do(t, n, m, call{name: "Send", b: "lost"})
			do(t, n, m, call{name: "Double", i: 3})
			checkNet(t, n, m)
		}
	}
}

// P10.1: doubling fills the net too.
func TestFilledByDoubling(t *testing.T) {
	n, m := net.New(), &model{}
	do(t, n, m, call{name: "Send", b: "a"})
	for i := range 511 {
		if !n.Double(i) {
			t.Fatalf("Double(%d) of %d: false", i, i+1)
		}
		m.double(i)
	}
	if n.Double(0) || n.Len() != 512 {
		t.Errorf("512 by doubling: %d, or one more", n.Len())
	}
	checkNet(t, n, m)
}

// P10.1: whatever room there was, all may be taken, in any order, and others come.
func TestEmptiedNet(t *testing.T) {
	r := rand.New(rand.NewSource(2))
	for _, many := range fillings() {
		for _, place := range []func() int{
			func() int { return 0 },
			func() int { return max(many, 1) - 1 },
			func() int { return r.Intn(max(many, 1)) },
		} {
			n, m := filled(t, many)
			for len(m.list) > 0 {
				do(t, n, m, call{name: "Take", i: min(place(), len(m.list)-1)})
			}
			checkNet(t, n, m)
			do(t, n, m, call{name: "Take", i: 0})
			do(t, n, m, call{name: "Send", b: "first again"})
			do(t, n, m, call{name: "Send", b: "second again"})
			checkNet(t, n, m)
		}
	}
}

// P10.1: the order of sending holds over many, of which there are always some under way.
func TestManySent(t *testing.T) {
	n, m := filled(t, 300)
	for i := range 20000 {
		do(t, n, m, call{name: "Send", b: fmt.Sprint(i)})
		do(t, n, m, call{name: "Take", i: i * 7919 % 301})
	}
	checkNet(t, n, m)
}

// P10.1, rule 5: a datagram of no bytes is one, nil or empty.
func TestDatagramsWithoutBytes(t *testing.T) {
	n, m := net.New(), &model{}
	for _, b := range [][]byte{nil, {}, []byte("a")[:0], nil} {
		if !n.Send(b) {
			t.Errorf("Send(%v): false", b)
		}
		m.send("")
		checkNet(t, n, m)
	}
	do(t, n, m, call{name: "Double", i: 1})
	do(t, n, m, call{name: "Send", b: "a"})
	checkNet(t, n, m)
	for range 6 {
		do(t, n, m, call{name: "Take", i: 0})
	}
	checkNet(t, n, m)
}

// P10.1: bytes of any kind and number come out as they went in, also if they are no text.
func TestAnyBytes(t *testing.T) {
	n, m := net.New(), &model{}
	var every strings.Builder
	for c := range 256 {
		every.WriteByte(byte(c))
		do(t, n, m, call{name: "Send", b: string([]byte{byte(c)})})
	}
	for _, b := range []string{
		every.String(), "\x00", "\x00\x00", "\xff\xfe\xc0\x80", "\xed\xa0\x80", "a\x00b", "\u20ac",
		strings.Repeat(every.String(), 1<<12), strings.Repeat("\xff", 1<<20+1),
	} {
		do(t, n, m, call{name: "Send", b: b})
		do(t, n, m, call{name: "Double", i: n.Len() - 1})
	}
	checkNet(t, n, m)
	for n.Len() > 0 {
		do(t, n, m, call{name: "Take", i: n.Len() / 2})
	}
}

// P10.1, rule 4: datagrams that are alike are as many as were sent.
func TestAlikeDatagrams(t *testing.T) {
	n, m := net.New(), &model{}
	for range 6 {
		do(t, n, m, call{name: "Send", b: "same"})
	}
	do(t, n, m, call{name: "Take", i: 2})
	checkNet(t, n, m)
	do(t, n, m, call{name: "Double", i: 4})
	do(t, n, m, call{name: "Take", i: 5})
	checkNet(t, n, m)
}

// P10.1: what only asks changes nothing.
func TestAskingChangesNothing(t *testing.T) {
	n, m := filled(t, 40)
	for i := -3; i < 43; i++ {
		n.At(i)
		n.Len()
		n.All()
		for range n.All() {
			break
		}
		checkNet(t, n, m)
	}
}

// P10.1: of a nil net: false, 0, none; and it takes nothing in.
func TestNilNet(t *testing.T) {
	var n *net.Net
	asked := n.All()
	for range 2 {
		if n.Send([]byte("a")) || n.Send(nil) {
			t.Error("Send: true")
		}
		for _, i := range append(noPlaces(0), 1, 511, 512) {
			if n.Double(i) {
				t.Errorf("Double(%d): true", i)
			}
			if b, ok := n.Take(i); len(b) != 0 || ok {
				t.Errorf("Take(%d): %q, %v", i, b, ok)
			}
		}
		checkNet(t, n, &model{})
		checkOver(t, "All of a nil net", asked, nil)
	}
}
