package wire_test

import (
	"encoding/binary"
	"math"
	"math/rand"
	"strings"

	"fletch/api"
)

// The limits are written out here as the chapters have them, so that the model leans on no name of the program's.
const (
	greatestNum  = 1099511627776
	greatestNode = 31
	greatestObj  = 7
)

// modelValid goes by the chapter's sentence.
func modelValid(m api.Msg) bool {
	if m.Obj < 0 || m.Obj > greatestObj || m.Node < 0 || m.Node > greatestNode || m.Num < 1 || m.Num > greatestNum {
		return false
	}
	switch m.Kind {
	case 1, 2, 3:
		return m.Where == 0
	case 4:
		return m.Where >= 0 && m.Where <= greatestNode
	}
	return false
}

// numbersOf answers the library's bytes of the numbers, one behind the other.
func numbersOf(xs ...int) string {
	var out []byte
	for _, x := range xs {
		out = binary.AppendUvarint(out, uint64(x))
	}
	return string(out)
}

// modelBytes answers a message's bytes; none, if it can't be.
func modelBytes(m api.Msg) string {
	if !modelValid(m) {
		return ""
	}
	if m.Kind == 4 {
		return numbersOf(m.Kind, m.Obj, m.Node, m.Num, m.Where)
	}
	return numbersOf(m.Kind, m.Obj, m.Node, m.Num)
}

// modelNumber answers the number that b begins with and how many bytes it has: it is one just if its own bytes stand there.
func modelNumber(b string) (int, int) {
	x, n := binary.Uvarint([]byte(b))
	if n < 1 || x > math.MaxInt64 || numbersOf(int(x)) != b[:n] {
		return 0, 0
	}
	return int(x), n
}

// modelFault matches the bytes against the eight rows of bytes of which a number could still become, by their highest bits.
func modelFault(b string) api.Errno {
	shape := strings.Map(func(r rune) rune { return '0' + r>>7 }, latin(b))
	if strings.HasPrefix("11111111", shape) {
		return 30
	}
	return 31
}

// latin answers a text with one character for each byte.
func latin(b string) string {
	var out strings.Builder
	for i := range len(b) {
		out.WriteRune(rune(b[i]))
	}
	return out.String()
}

// taken is what Take answers.
type taken struct {
	m api.Msg
	n int
	e api.Errno
}

// modelTake gathers the numbers first, four or five, and makes a message of them then.
func modelTake(b string) taken {
	var xs []int
	at := 0
	for len(xs) < 4 || len(xs) == 4 && xs[0] == 4 {
		x, n := modelNumber(b[at:])
		if n == 0 {
			return taken{e: modelFault(b[at:])}
		}
		xs = append(xs, x)
		at += n
	}
	xs = append(xs, 0)
	m := api.Msg{Kind: xs[0], Obj: xs[1], Node: xs[2], Num: xs[3], Where: xs[4]}
	if !modelValid(m) {
		return taken{e: 31}
	}
	return taken{m, at, 0}
}

// edgesOf answers numbers around each limit, and ones that are like small numbers in their lowest bits.
func edgesOf(limit int) []int {
	return []int{
		math.MinInt, -1 << 32, -256, -2, -1, 0, 1, 2, limit / 2, limit - 1, limit, limit + 1, limit + 2,
		256, 257, 1<<32 + 1, 1<<41 + 1, math.MaxInt - 1, math.MaxInt,
	}
}

// edgeMessages: those that can be and those that can't, on both sides of each limit of each field, in all combinations.
func edgeMessages(yield func(api.Msg) bool) {
	for _, kind := range []int{math.MinInt, -4, -1, 0, 1, 2, 3, 4, 5, 6, 8, 257, 260, 1<<32 + 4, math.MaxInt} {
		for _, obj := range edgesOf(greatestObj) {
			for _, node := range edgesOf(greatestNode) {
				for _, num := range []int{math.MinInt, -1, 0, 1, 2, 127, 128, greatestNum - 1, greatestNum, greatestNum + 1, math.MaxInt} {
					for _, where := range []int{math.MinInt, -1, 0, 1, 2, 30, 31, 32, 33, 256, 1 << 32, math.MaxInt} {
						if !yield(api.Msg{Kind: kind, Obj: obj, Node: node, Num: num, Where: where}) {
							return
						}
					}
				}
			}
		}
	}
}

// someMessage draws a message that can be, its number with any number of bytes.
func someMessage(r *rand.Rand) api.Msg {
	m := api.Msg{
		Kind: 1 + r.Intn(4),
		Obj:  r.Intn(greatestObj + 1),
		Node: r.Intn(greatestNode + 1),
		Num:  1 + int(r.Int63n(greatestNum)>>r.Intn(40)),
	}
	if m.Kind == 4 {
		m.Where = r.Intn(greatestNode + 1)
	}
	return m
}

// someBytes: a message's bytes, or numbers of which few make one, cut, lengthened and turned here and there.
func someBytes(r *rand.Rand) string {
	b := []byte(modelBytes(someMessage(r)))
	if r.Intn(3) == 0 {
		b = b[:0]
		for _, limit := range []int64{6, 10, 40, 1 << 42, 40} {
			b = binary.AppendUvarint(b, uint64(r.Int63n(limit)))
		}
	}
	for range r.Intn(3) {
		b[r.Intn(len(b))] = []byte{0x00, 0x01, 0x04, 0x7f, 0x80, 0xff, byte(r.Intn(256))}[r.Intn(7)]
	}
	b = b[:r.Intn(len(b)+1)]
	for range r.Intn(12) {
		b = append(b, []byte{0x00, 0x01, 0x80, 0xff, 0xff, byte(r.Intn(256))}[r.Intn(6)])
	}
	return string(b)
}
