package huff

import (
	"reedpipe/api"
	"reedpipe/bits"
)

// reader is where some bits are read; once there was an error, it stays, and all else that is read is 0.
type reader struct {
	b  []byte
	at int
	e  api.Errno
}

func (r *reader) get(size int) int {
	if r.e != api.OK {
		return 0
	}
	n, next, e := bits.Get(r.b, r.at, size)
	r.at, r.e = next, e
	return n
}

// signs gives values that are not 0 their signs.
func (r *reader) signs(values []int) {
	for i, v := range values {
		if v != 0 && r.get(1) == 1 {
			values[i] = -v
		}
	}
}

// escapes puts what escapes tell in place of values that stand for greater ones.
func (r *reader) escapes(values []int) {
	for i, v := range values {
		switch v {
		case escaped:
			values[i] = r.escape()
		case -escaped:
			values[i] = -r.escape()
		}
	}
}

func (r *reader) escape() int {
	ones := 0
	for r.get(1) == 1 {
		ones++
		if ones > mostOnes {
			r.e = api.ErrBad
			return 0
		}
	}
	low := ones + escapeBits
	return 1<<low + r.get(low)
}
