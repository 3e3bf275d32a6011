package image_test

import (
	"encoding/binary"
	"math"
	"slices"

	"fletch/api"
)

// The numbers are written out here as the chapters have them, so that the model leans on no name of the program's.
const (
	greatestNum = 1099511627776
	lastNode    = 31
	lastObj     = 7
	mostObjs    = 8
	mostEdges   = 32
	mostAsks    = 4
	mostGot     = 4
	mostCells   = 9
	mostOut     = 1024
)

// place is where a number of a state stands, and what an image has there.
type place struct {
	name      string
	at        *int
	low, high int
}

// numbersOf answers where all the numbers of a state stand, but the lengths of its lists, in the image's order.
func numbersOf(s *api.State) []place {
	out := []place{{"Me", &s.Me, 0, lastNode}, {"Asked", &s.Asked, 0, greatestNum}}
	for i := range s.Objs {
		o := &s.Objs[i]
		out = append(out, place{"Arrow", &o.Arrow, 0, lastNode}, place{"Made", &o.Made, 0, greatestNum})
		for j := range o.Cells {
			c := &o.Cells[j]
			out = append(out, place{"a cell's Num", &c.Num, 0, greatestNum}, place{"a cell's State", &c.State, 1, 3},
				place{"a cell's Node", &c.Node, -1, lastNode}, place{"a cell's Next", &c.Next, 0, greatestNum})
		}
	}
	for i := range s.Edges {
		e := &s.Edges[i]
		out = append(out, place{"Peer", &e.Peer, 0, lastNode}, place{"Base", &e.Base, 0, greatestNum}, place{"Seen", &e.Seen, 0, greatestNum})
		for j := range e.Out {
			out = append(out, messageNumbers(&e.Out[j])...)
		}
	}
	for i := range s.Asks {
		a := &s.Asks[i]
		out = append(out, place{"an Ask's Obj", &a.Obj, 0, lastObj}, place{"an Ask's Num", &a.Num, 0, greatestNum})
	}
	for i := range s.Got {
		f := &s.Got[i]
		out = append(out, place{"a Got's Obj", &f.Obj, 0, lastObj}, place{"a Got's Num", &f.Num, 0, greatestNum}, place{"a Got's Where", &f.Where, 0, lastNode})
	}
	return out
}

func messageNumbers(m *api.Msg) []place {
	where := 0
	if m.Kind == 4 {
		where = lastNode
	}
	return []place{{"a message's Kind", &m.Kind, 1, 4}, {"a message's Obj", &m.Obj, 0, lastObj}, {"a message's Node", &m.Node, 0, lastNode},
		{"a message's Num", &m.Num, 1, greatestNum}, {"a message's Where", &m.Where, 0, where}}
}

// length is a list's, and how many an image has at most.
type length struct {
	name      string
	len, most int
}

// lengthsOf answers those of all of a state's lists.
func lengthsOf(s api.State) []length {
	out := []length{{"Objs", len(s.Objs), mostObjs}, {"Edges", len(s.Edges), mostEdges}, {"Asks", len(s.Asks), mostAsks}, {"Got", len(s.Got), mostGot}}
	for _, o := range s.Objs {
		out = append(out, length{"Cells", len(o.Cells), mostCells})
	}
	for _, e := range s.Edges {
		out = append(out, length{"Out", len(e.Out), mostOut})
	}
	return out
}

// broken answers which of the chapter's conditions a state breaks.
func broken(s api.State) []string {
	var out []string
	for _, p := range numbersOf(&s) {
		if *p.at < p.low || *p.at > p.high {
			out = append(out, p.name)
		}
	}
	for _, l := range lengthsOf(s) {
		if l.len > l.most {
			out = append(out, l.name)
		}
	}
	for _, e := range s.Edges {
		if e.Base <= greatestNum && e.Base+len(e.Out) > greatestNum {
			out = append(out, "Base and Out")
		}
	}
	return out
}

func bytesOf(xs ...int) string {
	var out []byte
	for _, x := range xs {
		out = binary.AppendUvarint(out, uint64(x))
	}
	return string(out)
}

// listed answers a state's numbers in the image's order, each list's length ahead of it; of a message those that a function tells.
func listed(s api.State, message func(m api.Msg) []int) []int {
	out := []int{s.Me, s.Asked, len(s.Objs), len(s.Edges), len(s.Asks), len(s.Got)}
	for _, o := range s.Objs {
		out = append(out, o.Arrow, o.Made, len(o.Cells))
		for _, c := range o.Cells {
			out = append(out, c.Num, c.State, c.Node+1, c.Next)
		}
	}
	for _, e := range s.Edges {
		out = append(out, e.Peer, e.Base, e.Seen, len(e.Out))
		for _, m := range e.Out {
			out = append(out, message(m)...)
		}
	}
	for _, a := range s.Asks {
		out = append(out, a.Obj, a.Num)
	}
	for _, f := range s.Got {
		out = append(out, f.Obj, f.Num, f.Where)
	}
	return out
}

// words tells all that a state has: states are alike just if their words are.
func words(s api.State) []int {
	return listed(s, func(m api.Msg) []int { return []int{m.Kind, m.Obj, m.Node, m.Num, m.Where} })
}

// modelMessage answers the numbers of which a message's bytes are.
func modelMessage(m api.Msg) []int {
	if m.Kind == 4 {
		return []int{4, m.Obj, m.Node, m.Num, m.Where}
	}
	return []int{m.Kind, m.Obj, m.Node, m.Num}
}

func modelEncode(s api.State) (string, api.Errno) {
	if len(broken(s)) > 0 {
		return "", 24
	}
	return bytesOf(listed(s, modelMessage)...), 0
}

// modelNumber answers the number that b begins with and how many bytes it has: it is one just if its own bytes stand there.
func modelNumber(b string) (int, int) {
	x, n := binary.Uvarint([]byte(b[:min(len(b), 10)]))
	if n < 1 || x > math.MaxInt64 || bytesOf(int(x)) != b[:n] {
		return 0, 0
	}
	return int(x), n
}

// modelFault: bytes of which one more byte makes a number are too short; no others.
func modelFault(b string) api.Errno {
	if _, n := modelNumber(b + "\x01"); n == len(b)+1 {
		return 30
	}
	return 31
}

// greatest: of each place of an image, the greatest number that one has there.
var greatest = map[string]int{
	"Me": lastNode, "Arrow": lastNode, "Peer": lastNode, "Where": lastNode, "Obj": lastObj, "State": 3, "Node+1": lastNode + 1,
	"Asked": greatestNum, "Made": greatestNum, "Num": greatestNum, "Next": greatestNum, "Base": greatestNum, "Seen": greatestNum,
	"Objs": mostObjs, "Edges": mostEdges, "Asks": mostAsks, "Got": mostGot, "Cells": mostCells, "Out": mostOut,
}

// entry: of each list, the places of one of its entries.
var entry = map[string][]string{
	"Objs": {"Arrow", "Made", "Cells"}, "Edges": {"Peer", "Base", "Seen", "Out"}, "Asks": {"Obj", "Num"}, "Got": {"Obj", "Num", "Where"},
	"Cells": {"Num", "State", "Node+1", "Next"}, "Out": {"Message"},
}

// modelDecode answers the words of the state, as it comes by them: what is to be read yet stands in a row, into which each length of
// a list puts its entries.
func modelDecode(b string) ([]int, api.Errno) {
	var xs []int
	todo := []string{"Me", "Asked", "Objs", "Edges", "Asks", "Got"}
	for len(todo) > 0 {
		name := todo[0]
		todo = todo[1:]
		if name == "Message" {
			m, n, e := modelTake(b)
			if e != 0 {
				return nil, e
			}
			xs, b = append(xs, m...), b[n:]
			continue
		}
		x, n := modelNumber(b)
		if n == 0 {
			return nil, modelFault(b)
		}
		xs, b = append(xs, x), b[n:]
		stateless := name == "Next" && xs[len(xs)-3] == 0
		numberless := name == "Out" && xs[len(xs)-3]+x > greatestNum
		if x > greatest[name] || stateless || numberless {
			return nil, 31
		}
		switch name {
		case "Objs", "Edges", "Asks", "Got":
			todo = append(todo, slices.Repeat(entry[name], x)...)
		case "Cells", "Out":
			todo = append(slices.Repeat(entry[name], x), todo...)
		}
	}
	if b != "" {
		return nil, 31
	}
	return xs, 0
}

// modelTake gathers all of a message's numbers first, and how many bytes they have.
func modelTake(b string) ([]int, int, api.Errno) {
	var xs []int
	at := 0
	for len(xs) < 4 || len(xs) == 4 && xs[0] == 4 {
		x, n := modelNumber(b[at:])
		if n == 0 {
			return nil, 0, modelFault(b[at:])
		}
		xs, at = append(xs, x), at+n
	}
	xs = append(xs, 0)[:5]
	m := api.Msg{Kind: xs[0], Obj: xs[1], Node: xs[2], Num: xs[3], Where: xs[4]}
	for _, p := range messageNumbers(&m) {
		if *p.at < p.low || *p.at > p.high {
			return nil, 0, 31
		}
	}
	return xs, at, 0
}

// modelGram answers whether a datagram can be.
func modelGram(g api.Gram) bool {
	if g.From == g.To || min(g.From, g.To) < 0 || max(g.From, g.To) > lastNode || min(g.Ack, g.Seq) < 0 || max(g.Ack, g.Seq) > greatestNum {
		return false
	}
	if g.Seq == 0 {
		return g.Msg == api.Msg{}
	}
	for _, p := range messageNumbers(&g.Msg) {
		if *p.at < p.low || *p.at > p.high {
			return false
		}
	}
	return true
}

func modelEvent(ev api.Event) (string, api.Errno) {
	switch {
	case ev.Kind > 0 && ev.Kind < 4 && ev.Obj >= 0 && ev.Obj <= lastObj && ev.Gram == api.Gram{}:
		return bytesOf(ev.Kind, ev.Obj), 0
	case ev.Kind == 4 && ev.Obj == 0 && modelGram(ev.Gram):
		xs := []int{4, ev.Gram.From, ev.Gram.To, ev.Gram.Ack, ev.Gram.Seq}
		if ev.Gram.Seq > 0 {
			xs = append(xs, modelMessage(ev.Gram.Msg)...)
		}
		return bytesOf(xs...), 0
	}
	return "", 25
}

// modelRead gathers as many numbers as the first ones ask for, and holds their own bytes against those that were handed in.
func modelRead(b string) (api.Event, api.Errno) {
	var xs []int
	for at := 0; len(xs) < eventNumbers(xs); {
		x, n := modelNumber(b[at:])
		if n == 0 {
			return api.Event{}, modelFault(b[at:])
		}
		xs, at = append(xs, x), at+n
	}
	ev := api.Event{Kind: xs[0]}
	if xs = append(xs, 0, 0, 0, 0, 0, 0, 0, 0, 0); ev.Kind == 4 {
		ev.Gram = api.Gram{From: xs[1], To: xs[2], Ack: xs[3], Seq: xs[4], Msg: api.Msg{Kind: xs[5], Obj: xs[6], Node: xs[7], Num: xs[8], Where: xs[9]}}
	} else {
		ev.Obj = xs[1]
	}
	if want, e := modelEvent(ev); e != 0 || want != b {
		return api.Event{}, 31
	}
	return ev, 0
}

// eventNumbers answers how many numbers an event has that begins with these.
func eventNumbers(xs []int) int {
	switch {
	case len(xs) == 0:
		return 1
	case xs[0] < 1 || xs[0] > 4: // no kind: nothing behind it is read
		return 1
	case xs[0] < 4:
		return 2
	case len(xs) < 5 || xs[4] == 0:
		return 5
	case len(xs) < 6 || xs[5] != 4:
		return 9
	}
	return 10
}
