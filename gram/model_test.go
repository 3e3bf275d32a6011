package gram_test

import (
	"encoding/binary"
	"hash/crc32"
	"math"
	"math/rand"

	"fletch/api"
)

// The limits are written out here as the chapters have them, so that the model leans on no name of the program's.
const (
	greatestNum  = 1099511627776
	greatestNode = 31
	greatestObj  = 7
)

func isNode(x int) bool {
	return x >= 0 && x <= greatestNode
}

func isCount(x int) bool {
	return x >= 0 && x <= greatestNum
}

func modelMessage(m api.Msg) bool {
	if m.Obj < 0 || m.Obj > greatestObj || !isNode(m.Node) || !isCount(m.Num) || m.Num == 0 {
		return false
	}
	switch m.Kind {
	case 1, 2, 3:
		return m.Where == 0
	case 4:
		return isNode(m.Where)
	}
	return false
}

// modelValid goes by the chapter's sentence.
func modelValid(g api.Gram) bool {
	if g.From == g.To || !isNode(g.From) || !isNode(g.To) || !isCount(g.Ack) || !isCount(g.Seq) {
		return false
	}
	m := g.Msg
	if g.Seq == 0 {
		return m.Kind == 0 && m.Obj == 0 && m.Node == 0 && m.Num == 0 && m.Where == 0
	}
	return modelMessage(m)
}

// numbersOf answers the library's bytes of the numbers, one behind the other.
func numbersOf(xs ...int) string {
	var out []byte
	for _, x := range xs {
		out = binary.AppendUvarint(out, uint64(x))
	}
	return string(out)
}

// modelFields answers a datagram's fields' bytes; none, if it can't be.
func modelFields(g api.Gram) string {
	if !modelValid(g) {
		return ""
	}
	xs := []int{g.From, g.To, g.Ack, g.Seq, g.Msg.Kind, g.Msg.Obj, g.Msg.Node, g.Msg.Num, g.Msg.Where}
	return numbersOf(xs[:numbers(xs)]...)
}

// numbers answers how many numbers a datagram has that begins with these: its own four, four or five of a message.
func numbers(xs []int) int {
	switch {
	case len(xs) < 4 || xs[3] == 0:
		return 4
	case len(xs) < 5 || xs[4] != 4:
		return 8
	}
	return 9
}

// summed answers the bytes and behind them the library's sum of them.
func summed(fields string) string {
	return string(binary.LittleEndian.AppendUint32([]byte(fields), crc32.ChecksumIEEE([]byte(fields))))
}

// modelNumber answers the number that b begins with and how many bytes it has: it is one just if its own bytes stand there.
func modelNumber(b string) (int, int) {
	x, n := binary.Uvarint([]byte(b))
	if n < 1 || x > math.MaxInt64 || numbersOf(int(x)) != b[:n] {
		return 0, 0
	}
	return int(x), n
}

// modelFault: bytes of which one more byte makes a number are too short; no others.
func modelFault(b string) api.Errno {
	if _, n := modelNumber(b + "\x01"); n == len(b)+1 {
		return 30
	}
	return 31
}

// taken is what Take answers.
type taken struct {
	g api.Gram
	n int
	e api.Errno
}

// modelTake gathers all numbers first, the message's too, and makes a datagram of them then.
func modelTake(b string) taken {
	var xs []int
	at := 0
	for len(xs) < numbers(xs) {
		x, n := modelNumber(b[at:])
		if n == 0 {
			return taken{e: modelFault(b[at:])}
		}
		xs = append(xs, x)
		at += n
	}
	xs = append(xs, 0, 0, 0, 0, 0)
	g := api.Gram{From: xs[0], To: xs[1], Ack: xs[2], Seq: xs[3]}
	g.Msg = api.Msg{Kind: xs[4], Obj: xs[5], Node: xs[6], Num: xs[7], Where: xs[8]}
	if !modelValid(g) {
		return taken{e: 31}
	}
	return taken{g, at, 0}
}

// decoded is what Decode answers.
type decoded struct {
	g api.Gram
	e api.Errno
}

// modelDecode: bytes are a datagram's just if they are its fields' with the sum behind.
func modelDecode(b string) decoded {
	switch {
	case len(b) < 4:
		return decoded{e: 30}
	case summed(b[:len(b)-4]) != b:
		return decoded{e: 32}
	}
	got := modelTake(b[:len(b)-4])
	if got.e != 0 || summed(modelFields(got.g)) != b {
		return decoded{e: 31}
	}
	return decoded{got.g, 0}
}

// edgeMessages: none, ones that can be and ones that can't, on both sides of each limit.
func edgeMessages() []api.Msg {
	out := []api.Msg{
		{}, {Obj: 1}, {Node: 1}, {Num: 1}, {Where: 1}, {Obj: -1}, {Num: math.MinInt}, {Where: -1},
		{Kind: 1}, {Kind: 4}, {Kind: 4, Where: 1},
	}
	for kind := -1; kind < 7; kind++ {
		out = append(out,
			api.Msg{Kind: kind, Num: 1},
			api.Msg{Kind: kind, Obj: 7, Node: 31, Num: greatestNum},
			api.Msg{Kind: kind, Obj: 8, Num: 1},
			api.Msg{Kind: kind, Node: 32, Num: 1},
			api.Msg{Kind: kind, Num: greatestNum + 1},
			api.Msg{Kind: kind, Num: 1, Where: 31},
			api.Msg{Kind: kind, Num: 1, Where: 32},
			api.Msg{Kind: kind, Num: 1, Where: -1},
		)
	}
	return out
}

// edgeGrams: those that can be and those that can't, on both sides of each limit of each field, in all combinations.
func edgeGrams(yield func(api.Gram) bool) {
	nodes := []int{math.MinInt, -256, -1, 0, 1, 15, 30, 31, 32, 33, 256, 257, 1<<32 + 1, math.MaxInt}
	counts := []int{math.MinInt, -1, 0, 1, 127, 128, greatestNum - 1, greatestNum, greatestNum + 1, 1<<41 + 1, math.MaxInt}
	msgs := edgeMessages()
	for _, from := range nodes {
		for _, to := range nodes {
			for _, ack := range counts {
				for _, seq := range counts {
					for _, m := range msgs {
						if !yield(api.Gram{From: from, To: to, Ack: ack, Seq: seq, Msg: m}) {
							return
						}
					}
				}
			}
		}
	}
}

// someCount draws a number from 1 on with any number of bytes.
func someCount(r *rand.Rand) int {
	return 1 + int(r.Int63n(greatestNum)>>r.Intn(40))
}

// someGram draws a datagram that can be, with a message or without one.
func someGram(r *rand.Rand) api.Gram {
	g := api.Gram{From: r.Intn(greatestNode + 1), Ack: someCount(r) - 1}
	g.To = (g.From + 1 + r.Intn(greatestNode)) % (greatestNode + 1)
	if r.Intn(4) == 0 {
		return g
	}
	g.Seq = someCount(r)
	g.Msg = api.Msg{Kind: 1 + r.Intn(4), Obj: r.Intn(greatestObj + 1), Node: r.Intn(greatestNode + 1), Num: someCount(r)}
	if g.Msg.Kind == 4 {
		g.Msg.Where = r.Intn(greatestNode + 1)
	}
	return g
}

// someBytes: a datagram's fields' bytes, or numbers of which few make one, cut, lengthened and turned here and there.
func someBytes(r *rand.Rand) string {
	b := []byte(modelFields(someGram(r)))
	if r.Intn(3) == 0 {
		b = b[:0]
		for _, limit := range []int64{40, 40, 1 << 42, 1 << r.Intn(42), 6, 9, 40, 1 << 42, 40} {
			b = binary.AppendUvarint(b, uint64(r.Int63n(limit)))
		}
	}
	for range r.Intn(3) {
		b[r.Intn(len(b))] = []byte{0x00, 0x01, 0x04, 0x7f, 0x80, 0xff, byte(r.Intn(256))}[r.Intn(7)]
	}
	if r.Intn(2) == 0 {
		b = b[:r.Intn(len(b)+1)]
	}
	if r.Intn(2) == 0 {
		for range r.Intn(12) {
			b = append(b, []byte{0x00, 0x01, 0x80, 0xff, 0xff, byte(r.Intn(256))}[r.Intn(6)])
		}
	}
	return string(b)
}
