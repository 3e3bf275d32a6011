package half_test

import (
	"fmt"
	"iter"
	"math"
	"math/rand"
	"slices"
	"testing"

	"fletch/api"
	"fletch/half"
)

// The limits are written out here as the chapters have them, so that the model leans on no name of the program's.
const (
	greatestNum  = 1099511627776
	greatestPeer = 31
	mostOut      = 1024
)

// row is a message with its number.
type row struct {
	num int
	m   api.Msg
}

func modelMessage(m api.Msg) bool {
	if m.Obj < 0 || m.Obj > 7 || m.Node < 0 || m.Node > 31 || m.Num < 1 || m.Num > greatestNum {
		return false
	}
	switch m.Kind {
	case 1, 2, 3:
		return m.Where == 0
	case 4:
		return m.Where >= 0 && m.Where <= 31
	}
	return false
}

// modelGood goes by the chapter's sentence, clause by clause.
func modelGood(e api.Edge) bool {
	if e.Peer < 0 || e.Peer > greatestPeer || e.Base < 0 || e.Base > greatestNum || e.Seen < 0 || e.Seen > greatestNum {
		return false
	}
	for _, m := range e.Out {
		if !modelMessage(m) {
			return false
		}
	}
	return len(e.Out) <= mostOut && e.Base+len(e.Out) <= greatestNum
}

// modelRows numbers the messages; none of a side that can't be.
func modelRows(e api.Edge) []row {
	var rows []row
	if !modelGood(e) {
		return nil
	}
	num := e.Base
	for _, m := range e.Out {
		num++
		rows = append(rows, row{num, m})
	}
	return rows
}

func modelPush(e api.Edge, m api.Msg) (api.Edge, api.Errno) {
	if !modelGood(e) {
		return api.Edge{}, 24
	}
	if !modelMessage(m) {
		return api.Edge{}, 1
	}
	more := api.Edge{Peer: e.Peer, Base: e.Base, Seen: e.Seen}
	for _, r := range modelRows(e) {
		more.Out = append(more.Out, r.m)
	}
	more.Out = append(more.Out, m)
	if !modelGood(more) {
		return api.Edge{}, 23
	}
	return more, 0
}

// modelHeard knows a word that counts by its being the number of a message that is there.
func modelHeard(e api.Edge, ack int) (api.Edge, api.Errno) {
	if !modelGood(e) {
		return api.Edge{}, 24
	}
	left := api.Edge{Peer: e.Peer, Base: e.Base, Seen: e.Seen}
	for _, r := range modelRows(e) {
		left.Out = append(left.Out, r.m)
		if r.num == ack {
			left.Out = nil
			left.Base = r.num
		}
	}
	return left, 0
}

func modelFits(e api.Edge, seq int) bool {
	return modelGood(e) && seq > e.Seen && seq-1 == e.Seen && seq <= greatestNum
}

func modelTake(e api.Edge) (api.Edge, api.Errno) {
	if !modelGood(e) {
		return api.Edge{}, 24
	}
	if e.Seen == greatestNum {
		return api.Edge{}, 23
	}
	return api.Edge{Peer: e.Peer, Base: e.Base, Out: e.Out, Seen: e.Seen + 1}, 0
}

func modelLeft(e api.Edge, seen int) []row {
	var left []row
	for _, r := range modelRows(e) {
		if r.num > seen {
			left = append(left, r)
		}
	}
	return left
}

// alike: an empty list and none are alike.
func alike(a, b api.Edge) bool {
	return a.Peer == b.Peer && a.Base == b.Base && a.Seen == b.Seen && slices.Equal(a.Out, b.Out)
}

// brief tells a side without all of a long list.
func brief(e api.Edge) string {
	out := e.Out[:min(len(e.Out), 3)]
	return fmt.Sprintf("{Peer %d Base %d Out %d %+v Seen %d}", e.Peer, e.Base, len(e.Out), out, e.Seen)
}

// rowsOf gathers what is gone over.
func rowsOf(left iter.Seq2[int, api.Msg]) []row {
	var rows []row
	for num, m := range left {
		rows = append(rows, row{num, m})
	}
	return rows
}

func checkEdge(t *testing.T, what string, got api.Edge, e api.Errno, want api.Edge, wantE api.Errno) {
	t.Helper()
	if !alike(got, want) || e != wantE {
		t.Fatalf("%s: %s, %d, not %s, %d", what, brief(got), e, brief(want), wantE)
	}
}

func checkPush(t *testing.T, e api.Edge, m api.Msg) api.Errno {
	t.Helper()
	got, f := half.Push(e, m)
	want, wantF := modelPush(e, m)
	checkEdge(t, fmt.Sprintf("Push(%s, %+v)", brief(e), m), got, f, want, wantF)
	return f
}

func checkHeard(t *testing.T, e api.Edge, ack int) api.Errno {
	t.Helper()
	got, f := half.Heard(e, ack)
	want, wantF := modelHeard(e, ack)
	checkEdge(t, fmt.Sprintf("Heard(%s, %d)", brief(e), ack), got, f, want, wantF)
	return f
}

func checkTake(t *testing.T, e api.Edge) api.Errno {
	t.Helper()
	got, f := half.Take(e)
	want, wantF := modelTake(e)
	checkEdge(t, fmt.Sprintf("Take(%s)", brief(e)), got, f, want, wantF)
	return f
}

func checkFits(t *testing.T, e api.Edge, seq int) bool {
	t.Helper()
	got := half.Fits(e, seq)
	if got != modelFits(e, seq) {
		t.Fatalf("Fits(%s, %d): %v", brief(e), seq, got)
	}
	return got
}

func checkLeft(t *testing.T, e api.Edge, seen int) {
	t.Helper()
	checkOver(t, fmt.Sprintf("Left(%s, %d)", brief(e), seen), half.Left(e, seen), modelLeft(e, seen))
}

func checkOver(t *testing.T, what string, left iter.Seq2[int, api.Msg], want []row) {
	t.Helper()
	if got := rowsOf(left); !slices.Equal(got, want) {
		t.Fatalf("%s: %d of them, %+v, not %d, %+v", what, len(got), got[:min(len(got), 3)], len(want), want[:min(len(want), 3)])
	}
}

// checkGood answers what Good does.
func checkGood(t *testing.T, e api.Edge) bool {
	t.Helper()
	got := half.Good(e)
	if got != modelGood(e) {
		t.Fatalf("Good(%s): %v", brief(e), got)
	}
	return got
}

// checkAll asks every call about the side, with the numbers that make a difference to it.
func checkAll(t *testing.T, e api.Edge) bool {
	t.Helper()
	good := checkGood(t, e)
	for _, m := range []api.Msg{message(1), {}, {Kind: 5, Num: 1}} {
		checkPush(t, e, m)
	}
	checkTake(t, e)
	for _, ack := range numbersAround(e.Base, e.Base+len(e.Out), e.Seen) {
		checkHeard(t, e, ack)
		checkLeft(t, e, ack)
		checkFits(t, e, ack)
	}
	return good
}

// numbersAround: those at each of the given ones, with some between and the edges of all numbers.
func numbersAround(given ...int) []int {
	xs := []int{math.MinInt, math.MinInt + 1, -1 << 40, -1, 0, 1, 2, greatestNum - 1, greatestNum, greatestNum + 1, math.MaxInt - 1, math.MaxInt}
	for _, x := range given {
		xs = append(xs, -x, x-2, x-1, x, x+1, x+2, x+512, x+1<<32)
	}
	slices.Sort(xs)
	return slices.Compact(xs)
}

// message answers a message that can be, for each number another one.
func message(i int) api.Msg {
	m := api.Msg{Kind: 1 + i%4, Obj: i % 8, Node: i % 32, Num: 1 + i}
	if m.Kind == 4 {
		m.Where = i % 31
	}
	return m
}

// messages answers so many.
func messages(many int) []api.Msg {
	var out []api.Msg
	for i := range many {
		out = append(out, message(i))
	}
	return out
}

// cannot: messages of which one field alone is beyond what can be.
func cannot() []api.Msg {
	return []api.Msg{
		{},
		{Kind: 0, Num: 1},
		{Kind: -1, Num: 1},
		{Kind: 5, Num: 1},
		{Kind: api.Find, Obj: -1, Num: 1},
		{Kind: api.Find, Obj: 8, Num: 1},
		{Kind: api.Pass, Node: -1, Num: 1},
		{Kind: api.Pass, Node: 32, Num: 1},
		{Kind: api.Seek, Num: 0},
		{Kind: api.Seek, Num: greatestNum + 1},
		{Kind: api.Find, Num: 1, Where: 1},
		{Kind: api.Seek, Num: 1, Where: -1},
		{Kind: api.Tell, Num: 1, Where: -1},
		{Kind: api.Tell, Num: 1, Where: 32},
	}
}

// someEdge draws a side; most can be.
func someEdge(r *rand.Rand) api.Edge {
	e := api.Edge{Peer: r.Intn(32), Base: someNumber(r), Out: messages(r.Intn(8)), Seen: someNumber(r)}
	for i := range e.Out {
		e.Out[i] = message(r.Intn(1000))
	}
	switch r.Intn(16) {
	case 0:
		e.Peer = r.Intn(70) - 20
	case 1:
		e.Base = greatestNum - r.Intn(12) + 3
	case 2:
		e.Seen = greatestNum - r.Intn(6) + 3
	case 3:
		e.Base, e.Seen = -r.Intn(3), -r.Intn(3)
	case 4:
		wrong := cannot()
		e.Out = append(e.Out, wrong[r.Intn(len(wrong))])
		at := r.Intn(len(e.Out))
		e.Out[at], e.Out[len(e.Out)-1] = e.Out[len(e.Out)-1], e.Out[at]
	}
	return e
}

// someNumber draws one from 0 to the greatest, of any length.
func someNumber(r *rand.Rand) int {
	return int(r.Int63n(greatestNum+1) >> r.Intn(41))
}
