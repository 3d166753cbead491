package book

import (
	mathbits "math/bits"

	"reedpipe/api"
	"reedpipe/bits"
)

// Code is an entry's code.
func Code(k api.Book, entry int) ([]byte, api.Errno) {
	if !genuine(k) {
		return nil, api.ErrBad
	}
	if entry < 0 || entry >= len(k.Ranks) {
		return nil, api.ErrArg
	}
	rank := k.Ranks[entry]
	n := rank>>k.Plain + 1
	digits := mathbits.Len(uint(n))
	out, _ := bits.Put(nil, n, 2*digits-1)
	return bits.Put(out, rank&(1<<k.Plain-1), k.Plain)
}

// Read is the entry whose code stands at a place of bits, and the place behind it.
func Read(k api.Book, b []byte, at int) (entry, next int, e api.Errno) {
	if !genuine(k) {
		return 0, 0, api.ErrBad
	}
	zeros, next, e := zerosAhead(b, at)
	if e != api.OK {
		return 0, 0, e
	}
	low, next, e := bits.Get(b, next, zeros)
	if e != api.OK {
		return 0, 0, e
	}
	plain, next, e := bits.Get(b, next, k.Plain)
	if e != api.OK {
		return 0, 0, e
	}
	rank := (1<<zeros+low-1)<<k.Plain + plain
	if rank >= len(k.Entries) {
		return 0, 0, api.ErrBad
	}
	return k.Entries[rank], next, api.OK
}

// zerosAhead is how many bits 0 stand ahead of the next bit 1, and the place behind that.
func zerosAhead(b []byte, at int) (zeros, next int, e api.Errno) {
	for ; zeros <= mostZeros; zeros++ {
		bit, next, e := bits.Get(b, at, 1)
		if e != api.OK {
			return 0, 0, e
		}
		if bit == 1 {
			return zeros, next, api.OK
		}
		at = next
	}
	return 0, 0, api.ErrBad
}
