package net_test

import (
	"fmt"
	"iter"
	"math/rand"
	"slices"
	"testing"

	"fletch/api"
	"fletch/net"
)

// P10.1, P1: one answer may be gone over again and again, each time from its beginning.
func TestAgain(t *testing.T) {
	for _, many := range fillings() {
		n, m := filled(t, many)
		all := n.All()
		for range 3 {
			checkOver(t, "All", all, m.list)
		}
	}
}

// P10.1, P1: who stops, behind any number of steps, is asked no more; the next going is a whole one.
func TestStopped(t *testing.T) {
	for _, many := range fillings() {
		n, m := filled(t, many)
		all := n.All()
		for stop := 1; stop <= many; stop += 1 + many/50 {
			var got []string
			all(func(i int, b []byte) bool {
				if i != len(got) {
					t.Fatalf("place %d, not %d", i, len(got))
				}
				got = append(got, string(b))
				return len(got) < stop
			})
			if !slices.Equal(got, m.list[:stop]) {
				t.Fatalf("stopped at step %d: %.20q", stop, got)
			}
		}
		checkOver(t, "All behind stopped ones", all, m.list)
	}
}

// P10.1, P1: one answer is gone over within itself, whole and stopped.
func TestWithinItself(t *testing.T) {
	n, m := filled(t, 12)
	all := n.All()
	var outer []string
	for i, b := range all {
		if i != len(outer) {
			t.Fatalf("place %d, not %d", i, len(outer))
		}
		outer = append(outer, string(b))
		checkOver(t, "All within itself", all, m.list)
		for range all {
			break
		}
	}
	if !slices.Equal(outer, m.list) {
		t.Errorf("All around itself: %q, not %q", outer, m.list)
	}
}

// P10.1, P1: answers of several calls, and several goings over one, don't know of one another.
func TestGoingsAtOneTime(t *testing.T) {
	n, m := filled(t, 25)
	all := n.All()
	one, stopOne := iter.Pull2(all)
	defer stopOne()
	two, stopTwo := iter.Pull2(all)
	defer stopTwo()
	three, stopThree := iter.Pull2(n.All())
	defer stopThree()
	two()
	three()
	three()
	for i, want := range m.list {
		if at, b, ok := one(); at != i || string(b) != want || !ok {
			t.Errorf("the first, step %d: %d, %q, %v", i, at, b, ok)
		}
		if at, b, ok := two(); ok != (i < 24) || ok && (at != i+1 || string(b) != m.list[i+1]) {
			t.Errorf("the second, step %d: %d, %q, %v", i, at, b, ok)
		}
		if at, b, ok := three(); ok != (i < 23) || ok && (at != i+2 || string(b) != m.list[i+2]) {
			t.Errorf("the third, step %d: %d, %q, %v", i, at, b, ok)
		}
	}
}

// P10.1, P1: an answer goes over what was under way at its call, whatever is sent, doubled or taken behind it.
func TestChangesBehindTheCall(t *testing.T) {
	r := rand.New(rand.NewSource(3))
	for _, many := range []int{0, 1, 2, 3, 7, 40, api.MaxFlight} {
		n, m := filled(t, many)
		all, want := n.All(), slices.Clone(m.list)
		for range 300 {
			do(t, n, m, anyCall(r, m, many))
			checkOver(t, "All behind a change", all, want)
		}
		checkNet(t, n, m)
	}
}

// P10.1, P1: answers of calls between changes each go over what was there then, long behind it too.
func TestAnswersOfEachMoment(t *testing.T) {
	r := rand.New(rand.NewSource(4))
	n, m := net.New(), &model{}
	var asked []iter.Seq2[int, []byte]
	var wants [][]string
	for range 400 {
		do(t, n, m, anyCall(r, m, 10))
		asked = append(asked, n.All())
		wants = append(wants, slices.Clone(m.list))
	}
	for i, all := range asked {
		checkOver(t, "All of an earlier moment", all, wants[i])
	}
}

// P10.1, P1: nor is a change seen that is made while it is gone over, and it isn't lost either.
func TestChangesWhileGoneOver(t *testing.T) {
	for name, change := range map[string]func(n *net.Net, m *model, i int){
		"Send": func(n *net.Net, m *model, i int) {
			do(t, n, m, call{name: "Send", b: fmt.Sprint("new ", i)})
		},
		"Take the first": func(n *net.Net, m *model, i int) { do(t, n, m, call{name: "Take", i: 0}) },
		"Take the last":  func(n *net.Net, m *model, i int) { do(t, n, m, call{name: "Take", i: n.Len() - 1}) },
		"Take the next":  func(n *net.Net, m *model, i int) { do(t, n, m, call{name: "Take", i: i + 1}) },
		"Double":         func(n *net.Net, m *model, i int) { do(t, n, m, call{name: "Double", i: i}) },
		"Take, Double": func(n *net.Net, m *model, i int) {
			do(t, n, m, call{name: "Take", i: i / 2})
			do(t, n, m, call{name: "Double", i: i / 3})
		},
	} {
		for _, many := range []int{1, 2, 30, api.MaxFlight} {
			n, m := filled(t, many)
			all, want := n.All(), slices.Clone(m.list)
			var got []string
			for i, b := range all {
				got = append(got, string(b))
				change(n, m, i)
			}
			if !slices.Equal(got, want) {
				t.Errorf("%s: %.20q, not %.20q", name, got, want)
			}
			checkOver(t, name+", gone over again", all, want)
			checkNet(t, n, m)
		}
	}
}

// P10.1, P1: an answer of the empty net stays empty.
func TestEmptyStaysEmpty(t *testing.T) {
	n := net.New()
	all := n.All()
	n.Send([]byte("a"))
	checkOver(t, "All of what was empty", all, nil)
	checkOver(t, "All", n.All(), []string{"a"})
}
