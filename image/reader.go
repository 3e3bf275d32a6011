package image

import (
	"fletch/api"
	"fletch/gram"
	"fletch/pack"
	"fletch/wire"
)

// Decode answers the state of which these bytes are the image; ErrShort, ErrForm.
func Decode(b []byte) (s api.State, e api.Errno) {
	return whole(b, (*reader).state)
}

// Read answers the event of which these are the bytes; ErrShort, ErrForm.
func Read(b []byte) (api.Event, api.Errno) {
	return whole(b, (*reader).event)
}

// whole answers what take makes of all the bytes; where a fault deep in them gave up, its error and nothing else.
func whole[T any](b []byte, take func(r *reader) T) (x T, e api.Errno) {
	defer func() {
		if given := recover(); given != nil {
			// A panic of another kind would be no fault of the bytes, and must not pass for OK.
			e = api.Errno(given.(fault))
		}
	}()
	r := &reader{left: b}
	taken := take(r)
	if len(r.left) > 0 {
		panic(fault(api.ErrForm))
	}
	return taken, api.OK
}

// reader takes what is an image's from the front of its bytes; at a fault it gives up by panic.
type reader struct {
	left []byte
}

// fault is what a reader gives up with: an error's number.
type fault api.Errno

func (r *reader) state() api.State {
	s := api.State{Me: r.number(lastNode), Asked: r.number(api.MaxNum)}
	objs, edges := r.number(api.MaxObjects), r.number(api.MaxNodes)
	asks, got := r.number(api.MaxAsks), r.number(api.MaxGot)
	s.Objs = list(objs, r.own)
	s.Edges = list(edges, r.edge)
	s.Asks = list(asks, r.ask)
	s.Got = list(got, r.found)
	return s
}

func (r *reader) own() api.Own {
	return api.Own{
		Arrow: r.number(lastNode),
		Made:  r.number(api.MaxNum),
		Cells: list(r.number(mostCells), r.cell),
	}
}

func (r *reader) cell() api.Cell {
	c := api.Cell{
		Num:   r.number(api.MaxNum),
		State: r.number(api.Resting),
		Node:  r.number(api.MaxNodes) - 1,
		Next:  r.number(api.MaxNum),
	}
	// Only now: where bytes end too early, that is told ahead of a State 0.
	if !hasCell(c) {
		panic(fault(api.ErrForm))
	}
	return c
}

func (r *reader) edge() api.Edge {
	e := api.Edge{Peer: r.number(lastNode), Base: r.number(api.MaxNum), Seen: r.number(api.MaxNum)}
	e.Out = list(r.number(min(api.MaxOut, api.MaxNum-e.Base)), r.message)
	return e
}

func (r *reader) message() api.Msg {
	return part(r, wire.Take)
}

func (r *reader) ask() api.Ask {
	return api.Ask{Obj: r.number(lastObj), Num: r.number(api.MaxNum)}
}

func (r *reader) found() api.Found {
	return api.Found{Obj: r.number(lastObj), Num: r.number(api.MaxNum), Where: r.number(lastNode)}
}

func (r *reader) event() api.Event {
	ev := api.Event{Kind: r.number(api.EvGram)}
	switch ev.Kind {
	case 0: // no kind
		panic(fault(api.ErrForm))
	case api.EvGram:
		ev.Gram = part(r, gram.Take)
	default:
		ev.Obj = r.number(lastObj)
	}
	return ev
}

// number takes one that is at most so great.
func (r *reader) number(most int) int {
	return part(r, func(b []byte) (int, int, api.Errno) {
		x, n := pack.Take(b)
		switch {
		case n == 0:
			return 0, 0, wire.Fault(b)
		case x > most:
			return 0, 0, api.ErrForm
		}
		return x, n, api.OK
	})
}

// part takes what a function takes from the front of the bytes that are left.
func part[T any](r *reader, take func(b []byte) (T, int, api.Errno)) T {
	x, n, e := take(r.left)
	if e != api.OK {
		panic(fault(e))
	}
	r.left = r.left[n:]
	return x
}

// list takes so many, one behind the other.
func list[T any](many int, take func() T) []T {
	var xs []T
	for range many {
		xs = append(xs, take())
	}
	return xs
}
