package image

import (
	"bytes"

	"parapet/api"
)

// reader hands bytes out, one behind the other; behind the last one there are none.
type reader struct {
	left []byte
}

// read is the image that some bytes tell of, if they are those of one.
func read(b []byte) api.Image {
	r := reader{left: b}
	r.take(len(letters))
	x := api.Image{Entry: r.number()}
	// What is read of more than an image may have makes other bytes.
	segments, zeros := min(r.number(), api.MaxSegments), min(r.number(), api.MaxSegments)
	var lengths []int
	for range segments {
		x.Segments = append(x.Segments, api.Segment{Addr: r.number()})
		lengths = append(lengths, r.number())
	}
	for range zeros {
		x.Zero = append(x.Zero, api.Region{First: r.number(), Count: r.number()})
	}
	for i, n := range lengths {
		x.Segments[i].Bytes = bytes.Clone(r.take(n))
	}
	return x
}

// take is the next n bytes, or all that are left, if there are fewer.
func (r *reader) take(n int) []byte {
	n = min(n, len(r.left))
	b := r.left[:n:n]
	r.left = r.left[n:]
	return b
}

// number is the next number of 16 bits, its lowest byte first; 0, if it is not there.
func (r *reader) number() int {
	b := r.take(2)
	if len(b) < 2 {
		return 0
	}
	return int(b[0]) | int(b[1])<<8
}

// put puts numbers of 16 bits behind bytes.
func put(b []byte, numbers ...int) []byte {
	for _, n := range numbers {
		b = append(b, byte(n), byte(n>>8))
	}
	return b
}
