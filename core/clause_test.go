package core_test

import (
	"slices"

	"fletch/api"
)

// clause is one of the chapters' conditions, by itself: whether a state breaks it.
type clause struct {
	what   string
	broken func(m model, s api.State) bool
}

var clauses = slices.Concat(ownClauses(), cellClauses(), edgeClauses(), messageClauses(), locateClauses())

// broken answers which conditions the state breaks; of no node the others can't be asked.
func (m model) broken(s api.State) []string {
	if !m.has(s.Me) {
		return []string{"Me is a node"}
	}
	var out []string
	for _, c := range clauses {
		if c.broken(m, s) {
			out = append(out, c.what)
		}
	}
	return out
}

// anyOwn, anyEdge: whether one of a state's breaks it.
func anyOwn(broken func(m model, s api.State, o api.Own) bool) func(model, api.State) bool {
	return func(m model, s api.State) bool {
		return slices.ContainsFunc(s.Objs, func(o api.Own) bool { return broken(m, s, o) })
	}
}

func anyEdge(broken func(e api.Edge) bool) func(model, api.State) bool {
	return func(_ model, s api.State) bool { return slices.ContainsFunc(s.Edges, broken) }
}

// anyMessage: whether one of those in any Out does.
func anyMessage(broken func(m model, s api.State, g api.Msg) bool) func(model, api.State) bool {
	return func(m model, s api.State) bool {
		return slices.ContainsFunc(s.Edges, func(e api.Edge) bool {
			return slices.ContainsFunc(e.Out, func(g api.Msg) bool { return broken(m, s, g) })
		})
	}
}

// anyCell: whether one of the cells of any object does; last tells of a sink's last one.
func anyCell(broken func(m model, s api.State, o api.Own, at int, last bool) bool) func(model, api.State) bool {
	return anyOwn(func(m model, s api.State, o api.Own) bool {
		for at := range o.Cells {
			if broken(m, s, o, at, o.Arrow == s.Me && at+1 == len(o.Cells)) {
				return true
			}
		}
		return false
	})
}

func beyond(x, low, high int) bool {
	return x < low || x > high
}

func ownClauses() []clause {
	return []clause{
		{"1 to MaxObjects objects", func(_ model, s api.State) bool { return beyond(len(s.Objs), 1, mostObjects) }},
		{"Arrow is Me or a neighbour", anyOwn(func(m model, s api.State, o api.Own) bool {
			return o.Arrow != s.Me && !slices.Contains(m.neighbours(s.Me), o.Arrow)
		})},
		{"Made from 0 to MaxNum", anyOwn(func(_ model, _ api.State, o api.Own) bool { return beyond(o.Made, 0, greatestNum) })},
		{"a sink has a cell", anyOwn(func(_ model, s api.State, o api.Own) bool { return o.Arrow == s.Me && len(o.Cells) == 0 })},
		{"the last number is at most Made", anyOwn(func(_ model, _ api.State, o api.Own) bool {
			return len(o.Cells) > 0 && o.Made < o.Cells[len(o.Cells)-1].Num
		})},
		{"at most MaxWaiting are open", func(_ model, s api.State) bool { return modelOpen(s) > mostWaiting }},
	}
}

func cellClauses() []clause {
	return []clause{
		{"the numbers rise", anyCell(func(_ model, _ api.State, o api.Own, at int, _ bool) bool {
			return at > 0 && o.Cells[at-1].Num >= o.Cells[at].Num
		})},
		{"numbers from 0 to MaxNum", anyCell(func(_ model, _ api.State, o api.Own, at int, _ bool) bool {
			return beyond(o.Cells[at].Num, 0, greatestNum)
		})},
		{"one of the three states", anyCell(func(_ model, _ api.State, o api.Own, at int, _ bool) bool {
			return !slices.Contains([]int{waits, holds, rests}, o.Cells[at].State)
		})},
		{"all but the first one's are Waiting", anyCell(func(_ model, _ api.State, o api.Own, at int, _ bool) bool {
			return at > 0 && o.Cells[at].State != waits
		})},
		{"0 only of one that rests", anyCell(func(_ model, _ api.State, o api.Own, at int, _ bool) bool {
			return o.Cells[at].Num == 0 && o.Cells[at].State != rests
		})},
		{"the last one of a sink has no successor", anyCell(func(_ model, _ api.State, o api.Own, at int, last bool) bool {
			return last && (o.Cells[at].Node != -1 || o.Cells[at].Next != 0)
		})},
		{"every other one doesn't rest", anyCell(func(_ model, _ api.State, o api.Own, at int, last bool) bool {
			return !last && o.Cells[at].State == rests
		})},
		{"every other one's Node is a node", anyCell(func(m model, _ api.State, o api.Own, at int, last bool) bool {
			return !last && !m.has(o.Cells[at].Node)
		})},
		{"every other one's Next", anyCell(func(_ model, _ api.State, o api.Own, at int, last bool) bool {
			return !last && beyond(o.Cells[at].Next, 1, greatestNum)
		})},
		{"a successor here is the next one", anyCell(func(_ model, s api.State, o api.Own, at int, last bool) bool {
			here := !last && o.Cells[at].Node == s.Me
			return here && (at+1 == len(o.Cells) || o.Cells[at+1].Num != o.Cells[at].Next)
		})},
	}
}

func edgeClauses() []clause {
	return []clause{
		{"one side for each neighbour", func(m model, s api.State) bool { return len(s.Edges) != len(m.neighbours(s.Me)) }},
		{"in their order", func(m model, s api.State) bool {
			for i, v := range m.neighbours(s.Me) {
				if i < len(s.Edges) && s.Edges[i].Peer != v {
					return true
				}
			}
			return false
		}},
		{"Base from 0 to MaxNum", anyEdge(func(e api.Edge) bool { return beyond(e.Base, 0, greatestNum) })},
		{"Seen from 0 to MaxNum", anyEdge(func(e api.Edge) bool { return beyond(e.Seen, 0, greatestNum) })},
		{"at most MaxOut messages", anyEdge(func(e api.Edge) bool { return len(e.Out) > mostOut })},
		{"up to the number MaxNum", anyEdge(func(e api.Edge) bool { return e.Base <= greatestNum && e.Base+len(e.Out) > greatestNum })},
	}
}

func messageClauses() []clause {
	return []clause{
		{"a message's Kind", anyMessage(func(_ model, _ api.State, g api.Msg) bool { return beyond(g.Kind, 1, 4) })},
		{"a message's Num", anyMessage(func(_ model, _ api.State, g api.Msg) bool { return beyond(g.Num, 1, greatestNum) })},
		{"Where is a Tell's alone", anyMessage(func(_ model, _ api.State, g api.Msg) bool { return g.Kind != 4 && g.Where != 0 })},
		{"a message's Obj", anyMessage(func(_ model, s api.State, g api.Msg) bool { return beyond(g.Obj, 0, len(s.Objs)-1) })},
		{"a message's Node", anyMessage(func(m model, _ api.State, g api.Msg) bool { return !m.has(g.Node) })},
		{"a message's Where", anyMessage(func(m model, _ api.State, g api.Msg) bool { return !m.has(g.Where) })},
	}
}

func locateClauses() []clause {
	return []clause{
		{"Asked from 0 to MaxNum", func(_ model, s api.State) bool { return beyond(s.Asked, 0, greatestNum) }},
		{"at most MaxAsks", func(_ model, s api.State) bool { return len(s.Asks) > mostAsks }},
		{"an open locate's Obj", func(_ model, s api.State) bool {
			return slices.ContainsFunc(s.Asks, func(a api.Ask) bool { return beyond(a.Obj, 0, len(s.Objs)-1) })
		}},
		{"open locates from 1 to Asked", func(_ model, s api.State) bool {
			return slices.ContainsFunc(s.Asks, func(a api.Ask) bool { return beyond(a.Num, 1, s.Asked) })
		}},
		{"open locates rise", func(_ model, s api.State) bool {
			for i := range s.Asks {
				if i > 0 && s.Asks[i-1].Num >= s.Asks[i].Num {
					return true
				}
			}
			return false
		}},
		{"at most MaxGot", func(_ model, s api.State) bool { return len(s.Got) > mostGot }},
		{"an answer's Obj", func(_ model, s api.State) bool {
			return slices.ContainsFunc(s.Got, func(f api.Found) bool { return beyond(f.Obj, 0, len(s.Objs)-1) })
		}},
		{"an answer's Num", func(_ model, s api.State) bool {
			return slices.ContainsFunc(s.Got, func(f api.Found) bool { return beyond(f.Num, 1, s.Asked) })
		}},
		{"an answer's Where is a node", func(m model, s api.State) bool {
			return slices.ContainsFunc(s.Got, func(f api.Found) bool { return !m.has(f.Where) })
		}},
	}
}
