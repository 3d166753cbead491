// Package bits is layer 1: see shared/doc/01-bits.md.
package bits

import (
	"iter"

	"reedpipe/api"
)

const (
	maxSize     = 31
	maxUnpacked = 1 << 21
)

// Put are the bits b with those of n, of that size, behind them.
func Put(b []byte, n, size int) ([]byte, api.Errno) {
	if size < 0 || size > maxSize || n < 0 || n >= 1<<size {
		return nil, api.ErrArg
	}
	out := make([]byte, 0, len(b)+size)
	return collect(append(out, b...), digits(n, size)), api.OK
}

// Get is the number of the bits from place at on, as many as size, and the place behind them.
func Get(b []byte, at, size int) (n, next int, e api.Errno) {
	if size < 0 || size > maxSize || at < 0 || at > len(b) {
		return 0, 0, api.ErrArg
	}
	if len(b)-at < size {
		return 0, 0, api.ErrEnd
	}
	for _, d := range b[at : at+size] {
		if d > 1 {
			return 0, 0, api.ErrBad
		}
		n = n<<1 | int(d)
	}
	return n, at + size, api.OK
}

// Pack are bits as bytes.
func Pack(b []byte) ([]byte, api.Errno) {
	if len(b) > api.MaxBytes {
		return nil, api.ErrText
	}
	out := make([]byte, (len(b)+7)/8)
	for i, d := range b {
		if d > 1 {
			return nil, api.ErrBad
		}
		out[i/8] |= d << (7 - i%8)
	}
	return out, api.OK
}

// Unpack are bytes as bits.
func Unpack(b []byte) ([]byte, api.Errno) {
	if len(b) > maxUnpacked {
		return nil, api.ErrText
	}
	return collect(make([]byte, 0, 8*len(b)), allDigits(b)), api.OK
}

// digits are a number's bits, the highest one first.
func digits(n, size int) iter.Seq[byte] {
	return func(yield func(byte) bool) {
		for i := size - 1; i >= 0; i-- {
			if !yield(byte(n >> i & 1)) {
				return
			}
		}
	}
}

// allDigits are the bits of bytes, one byte behind the other.
func allDigits(b []byte) iter.Seq[byte] {
	return func(yield func(byte) bool) {
		for _, v := range b {
			for d := range digits(int(v), 8) {
				if !yield(d) {
					return
				}
			}
		}
	}
}

// collect is out with all that comes behind it.
func collect(out []byte, all iter.Seq[byte]) []byte {
	for d := range all {
		out = append(out, d)
	}
	return out
}
