package vault

import (
	"slices"

	"fletch/api"
	"fletch/disk"
	"fletch/frame"
)

const (
	word          = 8 // bytes of the generation, ahead of the snapshot
	maxGeneration = 1 << 62
)

// content is what a file tells.
type content struct {
	generation uint64 // 0: the file doesn't count
	snapshot   []byte
	records    [][]byte
	size       int // all its bytes
	end        int // those of its good frames
}

// counts answers whether the file may be the vault's.
func (c content) counts() bool {
	return c.generation > 0
}

// readBoth answers what the two files tell; ErrDown.
func readBoth(d *disk.Disk) ([2]content, api.Errno) {
	var files [2]content
	for f := range files {
		b, e := d.Read(f)
		if e != api.OK {
			return [2]content{}, e
		}
		files[f] = gather(b)
	}
	return files, api.OK
}

// newer answers the file with the greater generation, 0 if both have one; a file that doesn't count comes behind each that does.
func newer(files [2]content) int {
	if files[1].generation > files[0].generation {
		return 1
	}
	return 0
}

// gather answers what a file with these bytes tells. It breaks off at a first frame by which the file doesn't count, as there are no records then, whatever stands behind.
func gather(b []byte) content {
	c := content{size: len(b), end: frame.End(b)}
	for at, payload := range frame.Frames(b) {
		if at > 0 {
			c.records = append(c.records, payload)
			continue
		}
		c.generation = generationOf(payload)
		if !c.counts() {
			break
		}
		c.snapshot = payload[word:]
	}
	return c
}

// generationOf answers the generation that a first frame's payload tells; 0 if it tells none.
func generationOf(payload []byte) uint64 {
	if len(payload) < word {
		return 0
	}
	var x uint64
	for i, b := range payload[:word] {
		x |= uint64(b) << (8 * i)
	}
	if x > maxGeneration {
		return 0
	}
	return x
}

// firstFrame answers the first frame of a file: the generation, and the snapshot behind it; ErrLong.
func firstFrame(generation uint64, snapshot []byte) ([]byte, api.Errno) {
	var head [word]byte
	for i := range head {
		head[i] = byte(generation >> (8 * i))
	}
	return frame.Encode(slices.Concat(head[:], snapshot))
}
