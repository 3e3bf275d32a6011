package half_test

import (
	"fmt"
	"math/rand"
	"slices"
	"testing"

	"fletch/api"
	"fletch/half"
)

// way is one way over an edge: what was pushed on the one side, what counted on the other.
type way struct {
	pushed  []api.Msg
	counted []api.Msg
}

// come: a datagram with a message arrives at a side; the message counts if it fits, and is taken then.
func (w *way) come(t *testing.T, to api.Edge, num int, m api.Msg) api.Edge {
	t.Helper()
	if !half.Fits(to, num) {
		return to
	}
	next, f := half.Take(to)
	if f != api.OK {
		t.Fatalf("Take(%s), though %d fits: %d", brief(to), num, f)
	}
	w.counted = append(slices.Clone(w.counted), m)
	return next
}

func (w *way) push(t *testing.T, e api.Edge, m api.Msg) api.Edge {
	t.Helper()
	next, f := half.Push(e, m)
	if f != api.OK {
		t.Fatalf("Push(%s): %d", brief(e), f)
	}
	w.pushed = append(slices.Clone(w.pushed), m)
	return next
}

// check holds what counted against what was pushed, and what is left against the rest; begin is the number ahead of the first message's.
func (w *way) check(t *testing.T, from, to api.Edge, begin int) {
	t.Helper()
	n := len(w.counted)
	if n > len(w.pushed) || !slices.Equal(w.counted, w.pushed[:n]) {
		t.Fatalf("%d counted: %+v, of %d: %+v", n, w.counted, len(w.pushed), w.pushed)
	}
	if to.Seen != begin+n {
		t.Fatalf("%d counted, but Seen is %d", n, to.Seen)
	}
	var rest []row
	for i, m := range w.pushed[n:] {
		rest = append(rest, row{begin + n + i + 1, m})
	}
	checkOver(t, "Left beyond what the other one saw", half.Left(from, to.Seen), rest)
}

// moment is one state of two sides, with what was made until then: each message as soon as it was pushed, each word as soon as it was so.
type moment struct {
	a, b api.Edge
	w    way
	made []row
}

func (s moment) key() string {
	return fmt.Sprint(brief(s.a), brief(s.b), len(s.w.pushed), s.w.counted)
}

// P11.2: every moment that up to six pushes, and every message and word at every time, lead to, begun at nothing.
func TestEveryMomentOfSixPushes(t *testing.T) {
	const most = 6
	begin := moment{a: api.Edge{Peer: 1}, b: api.Edge{Peer: 0}}
	seen := map[string]bool{begin.key(): true}
	todo := []moment{begin}
	for len(todo) > 0 {
		s := todo[0]
		todo = todo[1:]
		s.w.check(t, s.a, s.b, 0)
		for _, next := range nextMoments(t, s, most) {
			if !seen[next.key()] {
				seen[next.key()] = true
				todo = append(todo, next)
			}
		}
	}
	// One moment for each Base up to what counted, up to what was pushed, up to six.
	if len(seen) != 84 {
		t.Errorf("%d moments", len(seen))
	}
}

// nextMoments: what each single thing that can happen makes of a moment.
func nextMoments(t *testing.T, s moment, most int) []moment {
	t.Helper()
	var next []moment
	if i := len(s.w.pushed); i < most {
		n := s
		n.a = n.w.push(t, s.a, message(i))
		n.made = slices.Clone(s.made)
		for num, m := range half.Left(n.a, i) {
			n.made = append(n.made, row{num, m})
		}
		if want := append(slices.Clone(s.made), row{i + 1, message(i)}); !slices.Equal(n.made, want) {
			t.Fatalf("made: %+v, not %+v", n.made, want)
		}
		next = append(next, n)
	}
	for _, r := range s.made {
		n := s
		n.b = n.w.come(t, s.b, r.num, r.m)
		next = append(next, n)
	}
	for word := range s.b.Seen + 1 {
		n := s
		heard, f := half.Heard(s.a, word)
		if f != api.OK {
			t.Fatalf("Heard(%s, %d): %d", brief(s.a), word, f)
		}
		n.a = heard
		next = append(next, n)
	}
	return next
}

// gram is what goes over an edge in a test: a word, and a message if its number isn't 0.
type gram struct {
	word int
	r    row
}

// pair is two sides of one edge, with what was pushed and what is under way each way; none pushes where most aren't heard.
type pair struct {
	begin int
	most  int
	sides [2]api.Edge
	ways  [2]way
	made  [2][]gram
}

// newPair: begin is how many messages each has heard of the other one already.
func newPair(begin, most int) *pair {
	return &pair{begin: begin, most: most, sides: [2]api.Edge{{Peer: 1, Base: begin, Seen: begin}, {Peer: 0, Base: begin, Seen: begin}}}
}

// send makes a datagram of any message that is in the side's list, one of the first more often, or of none.
func (p *pair) send(r *rand.Rand, from int) {
	g := gram{word: p.sides[from].Seen}
	left := rowsOf(half.Left(p.sides[from], 0))
	if at := r.Intn(1+r.Intn(len(left)+3)) - 1; at >= 0 && at < len(left) {
		g.r = left[at]
	}
	p.made[from] = append(p.made[from], g)
}

// arrive: a datagram made by the one side comes to the other.
func (p *pair) arrive(t *testing.T, from int, g gram) {
	t.Helper()
	to := 1 - from
	heard, f := half.Heard(p.sides[to], g.word)
	if f != api.OK {
		t.Fatalf("Heard(%s, %d): %d", brief(p.sides[to]), g.word, f)
	}
	p.sides[to] = heard
	if g.r.num > 0 {
		p.sides[to] = p.ways[from].come(t, p.sides[to], g.r.num, g.r.m)
	}
}

// anything lets one thing happen: a push, a datagram made, one that comes and stays, one that comes for the last time, one that is lost.
func (p *pair) anything(t *testing.T, r *rand.Rand) {
	t.Helper()
	from := r.Intn(2)
	made := p.made[from]
	switch x := r.Intn(10); {
	case x < 2 && len(p.sides[from].Out) < p.most && len(p.ways[from].pushed) < 400:
		p.sides[from] = p.ways[from].push(t, p.sides[from], message(r.Intn(3)))
	case x < 5 || len(made) == 0:
		p.send(r, from)
	default:
		at := r.Intn(len(made))
		if r.Intn(2) == 0 {
			at = len(made) - 1 // the last one made: else most that come are old ones
		}
		if x < 9 {
			p.arrive(t, from, made[at])
		}
		if x > 6 || len(made) > 60 {
			p.made[from] = slices.Delete(slices.Clone(made), at, at+1)
		}
	}
	p.check(t)
}

func (p *pair) check(t *testing.T) {
	t.Helper()
	for from := range 2 {
		p.ways[from].check(t, p.sides[from], p.sides[1-from], p.begin)
		if !half.Good(p.sides[from]) {
			t.Fatalf("Good(%s)", brief(p.sides[from]))
		}
	}
}

// rest sends all that is left, in order, and the word of it back: then all counted, and nothing is left.
func (p *pair) rest(t *testing.T) {
	t.Helper()
	for from := range 2 {
		to := 1 - from
		for num, m := range half.Left(p.sides[from], p.sides[to].Seen) {
			p.arrive(t, from, gram{p.sides[from].Seen, row{num, m}})
			p.check(t)
		}
		p.arrive(t, to, gram{word: p.sides[to].Seen})
		p.check(t)
		if w := p.ways[from]; len(w.counted) != len(w.pushed) || len(p.sides[from].Out) != 0 {
			t.Fatalf("%d of %d counted, %d aren't heard", len(w.counted), len(w.pushed), len(p.sides[from].Out))
		}
	}
}

// P11.2: both sides push, and datagrams are lost, doubled, late and out of order; many of the messages are like one another.
func TestBothWays(t *testing.T) {
	counted := 0
	for seed := range 40 {
		r := rand.New(rand.NewSource(int64(seed)))
		p := newPair(0, 1+seed)
		for range 1500 {
			p.anything(t, r)
		}
		counted += len(p.ways[0].counted) + len(p.ways[1].counted)
		p.rest(t)
		for range 100 {
			for from := range 2 {
				if len(p.made[from]) > 0 {
					p.arrive(t, from, p.made[from][r.Intn(len(p.made[from]))])
				}
			}
			p.check(t)
		}
	}
	if counted < 1500 {
		t.Errorf("just %d messages counted", counted)
	}
}

// P11.2: the same among the greatest numbers, up to the last one.
func TestBothWaysUpToTheLastNumber(t *testing.T) {
	for seed := range 10 {
		r := rand.New(rand.NewSource(int64(seed)))
		p := newPair(greatestNum-400, 3+seed)
		for range 1500 {
			p.anything(t, r)
		}
		for from := range 2 {
			for len(p.ways[from].pushed) < 400 {
				p.sides[from] = p.ways[from].push(t, p.sides[from], message(len(p.ways[from].pushed)))
			}
		}
		p.rest(t)
		for from := range 2 {
			if p.sides[from].Base != greatestNum || p.sides[from].Seen != greatestNum {
				t.Fatalf("at the end: %s", brief(p.sides[from]))
			}
			if _, f := half.Push(p.sides[from], message(1)); f != api.ErrRoom {
				t.Errorf("Push beyond the last number: %d", f)
			}
		}
	}
}

// P11.2: as many messages as there can be, of which none was heard, come backwards, then forwards, each twice.
func TestAllOfAFullList(t *testing.T) {
	p := newPair(0, mostOut)
	for i := range mostOut {
		p.sides[0] = p.ways[0].push(t, p.sides[0], message(i))
	}
	rows := rowsOf(half.Left(p.sides[0], 0))
	for _, r := range slices.Backward(rows) {
		p.arrive(t, 0, gram{0, r})
	}
	p.check(t)
	if len(p.ways[0].counted) != 1 {
		t.Errorf("%d counted of those that came backwards", len(p.ways[0].counted))
	}
	for _, r := range rows {
		p.arrive(t, 0, gram{0, r})
		p.arrive(t, 0, gram{0, r})
		p.check(t)
	}
	p.rest(t)
}
