package net_test

import (
	"fmt"
	"iter"
	"math"
	"math/rand"
	"slices"
	"testing"

	"fletch/api"
	"fletch/net"
)

// model is what is under way, as a list of texts.
type model struct {
	list []string
}

func (m *model) send(b string) bool {
	if len(m.list) == 512 {
		return false
	}
	m.list = append(slices.Clone(m.list), b)
	return true
}

func (m *model) at(i int) (string, bool) {
	for place, b := range m.list {
		if place == i {
			return b, true
		}
	}
	return "", false
}

func (m *model) take(i int) (string, bool) {
	b, ok := m.at(i)
	var left []string
	for place, other := range m.list {
		if place != i {
			left = append(left, other)
		}
	}
	m.list = left
	return b, ok
}

func (m *model) double(i int) bool {
	for place, b := range m.list {
		if place == i {
			return m.send(b)
		}
	}
	return false
}

// call is one call, by the name of its function.
type call struct {
	name string
	b    string
	i    int
}

func (c call) String() string {
	if c.name == "Send" {
		return fmt.Sprintf("Send(%.20q)", c.b)
	}
	return fmt.Sprintf("%s(%d)", c.name, c.i)
}

// told is what a call answers.
type told struct {
	b  string
	ok bool
}

func (c call) onNet(n *net.Net) told {
	switch c.name {
	case "Send":
		return told{ok: n.Send([]byte(c.b))}
	case "Double":
		return told{ok: n.Double(c.i)}
	case "At":
		b, ok := n.At(c.i)
		return told{string(b), ok}
	}
	b, ok := n.Take(c.i)
	return told{string(b), ok}
}

func (c call) onModel(m *model) told {
	switch c.name {
	case "Send":
		return told{ok: m.send(c.b)}
	case "Double":
		return told{ok: m.double(c.i)}
	case "At":
		b, ok := m.at(c.i)
		return told{b, ok}
	}
	b, ok := m.take(c.i)
	return told{b, ok}
}

// do does the call to the net and the model, and holds their answers against each other.
func do(t *testing.T, n *net.Net, m *model, c call) {
	t.Helper()
	if got, want := c.onNet(n), c.onModel(m); got != want {
		t.Fatalf("%v of %d: %v, not %v", c, len(m.list), got, want)
	}
}

// noPlaces: numbers that are no places among so many.
func noPlaces(many int) []int {
	return []int{math.MinInt, math.MinInt32, -many - 1, -many, -2, -1, many, many + 1, math.MaxInt32, math.MaxUint32 + 1, math.MaxInt}
}

// checkNet asks for all that the net can tell, and for what isn't there beside it.
func checkNet(t *testing.T, n *net.Net, m *model) {
	t.Helper()
	if got := n.Len(); got != len(m.list) {
		t.Fatalf("Len: %d, not %d", got, len(m.list))
	}
	for i, want := range m.list {
		if b, ok := n.At(i); string(b) != want || !ok {
			t.Fatalf("At(%d): %.20q, %v, not %.20q", i, b, ok, want)
		}
	}
	for _, i := range noPlaces(len(m.list)) {
		if b, ok := n.At(i); len(b) != 0 || ok {
			t.Fatalf("At(%d) of %d: %.20q, %v", i, len(m.list), b, ok)
		}
	}
	checkOver(t, "All", n.All(), m.list)
}

// checkOver holds what is gone over, and its places, against a list.
func checkOver(t *testing.T, what string, all iter.Seq2[int, []byte], want []string) {
	t.Helper()
	var got []string
	for i, b := range all {
		if i != len(got) {
			t.Fatalf("%s: place %d, not %d", what, i, len(got))
		}
		got = append(got, string(b))
	}
	if !slices.Equal(got, want) {
		t.Fatalf("%s: %.20q, not %.20q", what, got, want)
	}
}

// anyCall draws a call; most name a place that there is. The fuller, the rarer it sends.
func anyCall(r *rand.Rand, m *model, full int) call {
	many := len(m.list)
	i := r.Intn(many + 1)
	if r.Intn(8) == 0 {
		i = noPlaces(many)[r.Intn(len(noPlaces(many)))]
	}
	sends := 6
	if many >= full {
		sends = 3
	}
	switch x := r.Intn(10); {
	case x == 9:
		return call{name: "At", i: i}
	case x >= sends:
		return call{name: "Take", i: i}
	case x%2 == 0:
		return call{name: "Double", i: i}
	}
	return call{name: "Send", b: "abcdefghijklmnopqrstuvwxyz"[r.Intn(20):][:r.Intn(7)]}
}

// filled: a net and a model in which so many unlike datagrams are under way, of which some have no bytes.
func filled(t *testing.T, many int) (*net.Net, *model) {
	t.Helper()
	n, m := net.New(), &model{}
	for i := range many {
		b := fmt.Sprint("datagram ", i)
		if i%7 == 5 {
			b = ""
		}
		do(t, n, m, call{name: "Send", b: b})
	}
	return n, m
}

// fillings: how many are under way in the nets that a test looks at.
func fillings() []int {
	return []int{0, 1, 2, 3, 8, 100, api.MaxFlight - 1, api.MaxFlight}
}
