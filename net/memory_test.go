package net_test

import (
	"bytes"
	"fmt"
	"math/rand"
	"strings"
	"testing"

	"fletch/net"
)

const marked = 0xee

// roomy answers b with spare room behind it that holds marks.
func roomy(b string) []byte {
	room := bytes.Repeat([]byte{marked}, len(b)+64)
	return room[:copy(room, b)]
}

// scribble writes into bytes and their spare room.
func scribble(b []byte) {
	b = b[:cap(b)]
	for i := range b {
		b[i] = 0x21
	}
}

func checkUntouched(t *testing.T, what string, b []byte, want string) {
	t.Helper()
	if string(b) != want {
		t.Errorf("%s: what was handed in is %q now, not %q", what, b, want)
	}
	for _, c := range b[len(b):cap(b)] {
		if c != marked {
			t.Errorf("%s: the spare room was written to", what)
			return
		}
	}
}

// sizes: datagrams of no byte, one, few and many.
func sizes() []string {
	return []string{"", "a", "some bytes", strings.Repeat("many", 20), strings.Repeat("more", 5000)}
}

// P10.2: what is handed in isn't changed, spare room included, by the call or by any behind it.
func TestBytesStayAsTheyWere(t *testing.T) {
	for _, in := range sizes() {
		n := net.New()
		b := roomy(in)
		n.Send(b)
		n.Send(b)
		n.Double(0)
		at, _ := n.At(0)
		taken, _ := n.Take(1)
		last, _ := n.Take(1)
		for _, got := range [][]byte{at, taken, last} {
			scribble(got)
			scribble(append(got, "behind it"...))
		}
		for _, got := range n.All() {
			scribble(got)
		}
		n.Send([]byte("other"))
		checkUntouched(t, "Send", b, in)
	}
}

// P10.2: bytes that are lost for want of room aren't changed either.
func TestLostBytesStayAsTheyWere(t *testing.T) {
	n, m := filled(t, 512)
	for _, in := range sizes() {
		b := roomy(in)
		n.Send(b)
		checkUntouched(t, "Send without room", b, in)
		scribble(b)
	}
	checkNet(t, n, m)
}

// P10.2: nor is it kept: what is written to it behind the call isn't seen.
func TestNothingIsKept(t *testing.T) {
	for _, in := range sizes() {
		n, m := net.New(), &model{}
		b := roomy(in)
		for range 2 {
			n.Send(b)
			m.send(in)
		}
		n.Double(1)
		m.send(in)
		all := n.All()
		scribble(b)
		checkNet(t, n, m)
		checkOver(t, "All", all, m.list)
		do(t, n, m, call{name: "Take", i: 1})
		do(t, n, m, call{name: "Double", i: 1})
		checkNet(t, n, m)
	}
}

// P10.2: one list filled anew for each datagram makes datagrams that are apart.
func TestOneListForAll(t *testing.T) {
	n, m := net.New(), &model{}
	b := make([]byte, 0, 64)
	for i := range 100 {
		b = append(b[:0], fmt.Sprint("datagram ", i)...)
		n.Send(b)
		m.send(string(b))
	}
	checkNet(t, n, m)
}

// P10.2: what At, Take and All answer is the caller's, its spare room too: neither the net nor another answer sees what is written there.
func TestAnswersAreNewMemory(t *testing.T) {
	for _, in := range sizes() {
		n, m := net.New(), &model{}
		do(t, n, m, call{name: "Send", b: in})
		do(t, n, m, call{name: "Send", b: "between"})
		do(t, n, m, call{name: "Double", i: 0})
		all, want := n.All(), m.list
		one, _ := n.At(0)
		two, _ := n.At(0)
		three, _ := n.At(2)
		scribble(one)
		scribble(append(one, "behind"...))
		if string(two) != in || string(three) != in {
			t.Errorf("answers of At share memory: %.20q, %.20q", two, three)
		}
		checkNet(t, n, m)
		taken, _ := n.Take(0)
		m.take(0)
		scribble(taken)
		scribble(append(taken, "behind"...))
		if string(two) != in || string(three) != in {
			t.Errorf("Take's answer shares memory with At's: %.20q, %.20q", two, three)
		}
		checkOver(t, "All, called ahead of Take", all, want)
		checkNet(t, n, m)
	}
}

// P10.2: what was taken out stays what it was, whatever becomes of the net; so does what At and All answered.
func TestAnswersStay(t *testing.T) {
	for _, in := range sizes() {
		n := net.New()
		n.Send([]byte(in))
		n.Double(0)
		n.Double(0)
		var answers [][]byte
		for _, b := range n.All() {
			answers = append(answers, b)
		}
		at, _ := n.At(1)
		taken, _ := n.Take(1)
		again, _ := n.Take(0)
		answers = append(answers, at, taken, again)
		for i := range 600 {
			n.Send(roomy(fmt.Sprint("other ", i)))
			for _, b := range n.All() {
				scribble(b)
				break
			}
		}
		for i, b := range answers {
			if string(b) != in {
				t.Errorf("answer %d is %.20q now, not %.20q", i, b, in)
			}
		}
	}
}

// P10.2: no two that one going over answers share memory, nor two of two goings, though they are of one datagram.
func TestGoneOverIsNewMemory(t *testing.T) {
	for _, in := range sizes() {
		n, m := net.New(), &model{}
		do(t, n, m, call{name: "Send", b: in})
		for range 3 {
			do(t, n, m, call{name: "Double", i: 0})
		}
		all := n.All()
		for range 2 {
			var rows [][]byte
			for range 2 {
				for _, b := range all {
					rows = append(rows, b)
				}
			}
			for i, b := range rows {
				if string(b) != in {
					t.Errorf("row %d is %.20q now, not %.20q", i, b, in)
				}
				scribble(b)
				scribble(append(b, "behind"...))
			}
			checkOver(t, "All, written into", all, m.list)
			checkNet(t, n, m)
		}
	}
}

// P10.2: what is done to one net isn't seen in another.
func TestTwoNets(t *testing.T) {
	r := rand.New(rand.NewSource(5))
	x, m := net.New(), &model{}
	y, o := net.New(), &model{}
	for range 3000 {
		if r.Intn(2) == 0 {
			x, m, y, o = y, o, x, m
		}
		do(t, x, m, anyCall(r, m, 10))
		checkNet(t, x, m)
		checkNet(t, y, o)
	}
}

// P10.2: a full net takes no room from another, and what one lost the other has.
func TestRoomOfTwoNets(t *testing.T) {
	x, m := filled(t, 512)
	y, o := filled(t, 511)
	do(t, x, m, call{name: "Send", b: "lost"})
	do(t, y, o, call{name: "Send", b: "the last"})
	do(t, y, o, call{name: "Send", b: "lost"})
	do(t, x, m, call{name: "Take", i: 7})
	do(t, y, o, call{name: "Send", b: "lost too"})
	checkNet(t, x, m)
	checkNet(t, y, o)
}

// P10.2, P1: so nets of several goroutines, one each, may be used at one time.
func TestNetsAtOneTime(t *testing.T) {
	done := make(chan string)
	same := roomy("same bytes")
	for range 8 {
		go func() {
			n := net.New()
			for i := range 3000 {
				n.Send(same)
				n.Send([]byte{byte(i)})
				n.Double(i % 300)
				n.Take(i % 7)
			}
			var all strings.Builder
			for i, b := range n.All() {
				fmt.Fprint(&all, i, " ", string(b), "\n")
			}
			done <- all.String()
		}()
	}
	first := <-done
	for range 7 {
		if got := <-done; got != first {
			t.Error("nets that were used alike differ")
		}
	}
	if strings.Count(first, "same bytes") < 10 {
		t.Errorf("under way: %q", first)
	}
	checkUntouched(t, "Send", same, "same bytes")
}
