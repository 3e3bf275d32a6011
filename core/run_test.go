package core_test

import (
	"math/rand"
	"slices"
	"testing"

	"fletch/api"
	"fletch/tree"
)

// run is all nodes of a tree, each with its state; what they tell one another the test brings or loses.
type run struct {
	t     *testing.T
	x     *tree.Tree
	m     model
	homes []int
	nodes []api.State
	grams []api.Event    // under way
	calls map[string]int // by what they answered
	finds map[[3]int]int // how many times a request's Find was pushed
	got   map[[3]int]int // how many times a request got its object
}

func started(t *testing.T, homes []int, parents ...int) *run {
	t.Helper()
	w := &run{t: t, homes: homes, calls: map[string]int{}, finds: map[[3]int]int{}, got: map[[3]int]int{}}
	w.x, w.m = made(t, parents...)
	for _, v := range w.m.nodes() {
		w.nodes = append(w.nodes, begun(t, w.x, homes, v))
	}
	return w
}

// step applies an event at a node, and holds what it made of its state against the promises.
func (w *run) step(v int, ev api.Event) (int, api.Errno) {
	w.t.Helper()
	was := w.nodes[v]
	s, num, e := checkApply(w.t, w.x, w.m, was, ev)
	if e != api.OK {
		return 0, e
	}
	checkLaws(w.t, w.m, was, ev, s)
	for i, edge := range s.Edges {
		for _, x := range edge.Out[fresh(was.Edges[i], edge):] {
			if x.Kind == find {
				w.finds[[3]int{x.Obj, x.Node, x.Num}]++
			}
		}
	}
	for obj, o := range s.Objs {
		for _, c := range o.Cells {
			if c.State == holds && !slices.Contains(was.Objs[obj].Cells, c) {
				w.note(obj, v, c, was.Objs[obj].Cells)
			}
		}
	}
	w.nodes[v] = s
	return num, e
}

// fresh: how many of the side's messages stood there ahead of the event; those behind them are new.
func fresh(was, is api.Edge) int {
	return was.Base + len(was.Out) - is.Base
}

// note counts that a request got its object, if it isn't just its successor that is new.
func (w *run) note(obj, v int, c api.Cell, was []api.Cell) {
	held := slices.ContainsFunc(was, func(b api.Cell) bool { return b.Num == c.Num && b.State == holds })
	if !held {
		w.got[[3]int{obj, v, c.Num}]++
	}
}

// call makes a client's call that isn't to be refused; it answers the number.
func (w *run) call(v, kind, obj int) int {
	w.t.Helper()
	num, e := w.step(v, call(kind, obj))
	if e != api.OK {
		w.t.Fatalf("the call %d of %d at %d: %d", kind, obj, v, e)
	}
	return num
}

// side answers the node u's of the edge to v.
func (w *run) side(u, v int) api.Edge {
	return w.nodes[u].Edges[slices.Index(w.m.neighbours(u), v)]
}

// left answers u's messages for v that v hasn't taken.
func (w *run) left(u, v int) []api.Msg {
	e := w.side(u, v)
	return e.Out[w.side(v, u).Seen-e.Base:]
}

// sent answers the datagrams that u would send v now.
func (w *run) sent(u, v int) []api.Event {
	e := w.side(u, v)
	out := []api.Event{comes(u, v, e.Seen, 0, api.Msg{})}
	for i, x := range e.Out {
		out = append(out, comes(u, v, e.Seen, e.Base+1+i, x))
	}
	return out
}

// carry brings v the next one of u's messages.
func (w *run) carry(u, v int) {
	w.t.Helper()
	for _, ev := range w.sent(u, v) {
		if ev.Gram.Seq == w.side(v, u).Seen+1 {
			w.come(ev)
			return
		}
	}
	w.t.Fatalf("nothing is left from %d for %d", u, v)
}

func (w *run) come(ev api.Event) {
	w.t.Helper()
	if _, e := w.step(ev.Gram.To, ev); e != api.OK {
		w.t.Fatalf("%+v: %d", ev, e)
	}
}

// rest brings all messages to where they go, until none is left; every node hears that they came.
func (w *run) rest() {
	w.t.Helper()
	for more := true; more; {
		more = false
		for u, v := range w.x.Edges() {
			for _, way := range [][2]int{{u, v}, {v, u}} {
				for len(w.left(way[0], way[1])) > 0 {
					w.carry(way[0], way[1])
					more = true
				}
				w.come(w.sent(way[1], way[0])[0])
			}
		}
	}
}

// checkWhole holds all nodes together against the document's laws: each object at one place, each edge of one of three kinds.
func (w *run) checkWhole() {
	w.t.Helper()
	for obj := range w.homes {
		places, sinks, finds := 0, 0, 0
		for v, s := range w.nodes {
			o := s.Objs[obj]
			if o.Arrow == v {
				sinks++
			}
			places += notWaiting(o)
		}
		for u, v := range w.x.Edges() {
			three := 0
			for _, way := range [][2]int{{u, v}, {v, u}} {
				if w.nodes[way[0]].Objs[obj].Arrow == way[1] {
					three++
				}
				for _, x := range w.left(way[0], way[1]) {
					switch {
					case x.Obj == obj && x.Kind == pass:
						places++
					case x.Obj == obj && x.Kind == find:
						three++
						finds++
					}
				}
			}
			if three != 1 {
				w.t.Fatalf("object %d, edge %d %d: %d of the three", obj, u, v, three)
			}
		}
		if places != 1 || sinks != finds+1 {
			w.t.Fatalf("object %d is at %d places; %d sinks, %d finds", obj, places, sinks, finds)
		}
	}
}

// drained brings the nodes to rest, and lets go what is held, until nothing is open.
func (w *run) drained() {
	w.t.Helper()
	w.rest()
	for more := true; more; {
		more = false
		for v := range w.nodes {
			for obj := range w.homes {
				if _, e := w.step(v, call(release, obj)); e == api.OK {
					more = true
				}
			}
		}
		w.rest()
	}
	w.checkWhole()
	for v, s := range w.nodes {
		if modelOpen(s) > 0 || len(s.Asks) > 0 {
			w.t.Fatalf("open at %d: %+v", v, brief(s))
		}
		for obj, o := range s.Objs {
			for num := 1; num <= o.Made; num++ {
				if n := w.got[[3]int{obj, v, num}]; n != 1 {
					w.t.Fatalf("the request %d of %d got the object %d %d times", num, v, obj, n)
				}
			}
		}
	}
	for who, n := range w.finds {
		if n > w.m.size()-1 {
			w.t.Fatalf("the Find of %v was pushed %d times", who, n)
		}
	}
	w.checkQuiet()
}

// checkQuiet: every arrow leads along the tree's path to the node where the object rests.
func (w *run) checkQuiet() {
	w.t.Helper()
	for obj := range w.homes {
		at := slices.IndexFunc(w.nodes, func(s api.State) bool { return notWaiting(s.Objs[obj]) == 1 })
		for v, s := range w.nodes {
			if s.Objs[obj].Arrow != w.m.next(v, at) {
				w.t.Fatalf("the object %d is at %d, but the arrow of %d is %d", obj, at, v, s.Objs[obj].Arrow)
			}
		}
	}
}

// live lets many things happen: calls at any node, datagrams lost, doubled, late and out of order.
func (w *run) live(r *rand.Rand, steps int) {
	w.t.Helper()
	for range steps {
		v := r.Intn(w.m.size())
		near := w.m.neighbours(v)
		switch k := r.Intn(10); {
		case k < 4 || len(near) == 0:
			kind := 1 + r.Intn(3)
			_, e := w.step(v, call(kind, r.Intn(len(w.homes))))
			w.calls[word(kind, e)]++
		case k < 6:
			w.grams = append(w.grams, w.sent(v, near[r.Intn(len(near))])...)
		case len(w.grams) > 0:
			i := r.Intn(len(w.grams))
			w.come(w.grams[i])
			if r.Intn(3) > 0 {
				w.grams = slices.Delete(w.grams, i, i+1)
			}
		}
		if len(w.grams) > 60 {
			r.Shuffle(len(w.grams), func(i, j int) { w.grams[i], w.grams[j] = w.grams[j], w.grams[i] })
			w.grams = w.grams[:30]
		}
		w.checkWhole()
	}
}

func word(kind int, e api.Errno) string {
	return []string{"", "acquire", "release", "locate"}[kind] + map[api.Errno]string{0: "", 21: " ErrMany", 22: " ErrHeld"}[e]
}

// P15.1, P15.2: whole runs over many trees, with all that happens to datagrams: each step is the model's, each state can be, the
// objects and arrows obey the document's laws, and at the end everyone who wanted an object has had it, just once.
func TestWholeRuns(t *testing.T) {
	calls := map[string]int{}
	someTrees(t, 31, func(r *rand.Rand, x *tree.Tree, m model) {
		for range 2 {
			var homes []int
			for range 1 + r.Intn(3) {
				homes = append(homes, r.Intn(m.size()))
			}
			w := &run{t: t, x: x, m: m, homes: homes, calls: calls, finds: map[[3]int]int{}, got: map[[3]int]int{}}
			for _, v := range m.nodes() {
				w.nodes = append(w.nodes, begun(t, x, homes, v))
			}
			w.live(r, 300)
			w.drained()
		}
	})
	for _, what := range []string{"acquire", "release", "locate", "acquire ErrMany", "release ErrHeld", "locate ErrMany"} {
		if calls[what] == 0 {
			t.Errorf("never: %s", what)
		}
	}
}

// P15.5: a datagram that came counts no second time, however late it comes again.
func TestOldDatagrams(t *testing.T) {
	w := started(t, []int{2, 0}, -1, 0, 0, 1)
	r := rand.New(rand.NewSource(32))
	w.live(r, 400)
	old := slices.Clone(w.grams)
	w.drained()
	for range 5 {
		for _, ev := range old {
			was := w.nodes[ev.Gram.To]
			w.come(ev)
			checkState(t, "a datagram that came again", w.nodes[ev.Gram.To], was)
		}
		w.call(3, acquire, 1)
		w.drained()
	}
}

// P15.1: what an acquire and a locate cost in a world at rest is the way from their node to the last holder, and what comes back.
func TestCostAtRest(t *testing.T) {
	someTrees(t, 33, func(r *rand.Rand, x *tree.Tree, m model) {
		w := &run{t: t, x: x, m: m, homes: []int{r.Intn(m.size())}, finds: map[[3]int]int{}, got: map[[3]int]int{}}
		for _, v := range m.nodes() {
			w.nodes = append(w.nodes, begun(t, x, w.homes, v))
		}
		at := w.homes[0]
		for range 8 {
			v := r.Intn(m.size())
			before := w.pushed()
			num := w.call(v, locate, 0)
			w.rest()
			got := w.nodes[v].Got
			if got[len(got)-1] != (api.Found{Num: num, Where: at}) {
				t.Fatalf("the locate at %d: %v, and the object is at %d", v, got, at)
			}
			middle := w.pushed()
			w.call(v, acquire, 0)
			w.rest()
			if far := 2 * m.far[v][at]; middle-before != far || w.pushed()-middle != far {
				t.Fatalf("%d edges there and back: the locate cost %d, the acquire %d", far, middle-before, w.pushed()-middle)
			}
			w.call(v, release, 0)
			at = v
			w.checkQuiet()
		}
	})
}

// pushed answers how many messages ever were.
func (w *run) pushed() int {
	n := 0
	for _, s := range w.nodes {
		for _, e := range s.Edges {
			n += e.Base + len(e.Out)
		}
	}
	return n
}
