package crc_test

import (
	"bytes"
	"math"
	"testing"

	"reedpipe/api"
	"reedpipe/crc"
)

// some are bits without a plain pattern.
func some(n int, seed uint32) []byte {
	b := make([]byte, n)
	for i := range b {
		seed = seed*1664525 + 1013904223
		b[i] = byte(seed >> 31)
	}
	return b
}

// slow is the sum as a rest of a division, told by lists of bits.
func slow(sum int, b []byte) int {
	for _, v := range b {
		top := sum / 32768
		sum = sum * 2 % 65536
		if top != int(v) {
			sum ^= 0x8005
		}
	}
	return sum
}

func ones(n int) []byte { return bytes.Repeat([]byte{1}, n) }

func TestOf(t *testing.T) {
	for i, c := range []struct {
		b    []byte
		want int
	}{
		{nil, 65535},
		{[]byte{1}, 65534},
		{[]byte{0}, 65534 ^ 0x8005},
		{ones(16), 0},
		{ones(17), 0x8005},
		{append(ones(16), 0, 0, 0), 0},
		// the letters 1 to 9: the sum that is told everywhere of this word
		{[]byte{0, 0, 1, 1, 0, 0, 0, 1, 0, 0, 1, 1, 0, 0, 1, 0, 0, 0, 1, 1, 0, 0, 1, 1, 0, 0, 1, 1, 0, 1, 0, 0, 0, 0, 1, 1, 0, 1, 0, 1, 0, 0, 1, 1, 0, 1, 1, 0, 0, 0, 1, 1, 0, 1, 1, 1, 0, 0, 1, 1, 1, 0, 0, 0, 0, 0, 1, 1, 1, 0, 0, 1}, 0xAEE7},
	} {
		if got, e := crc.Of(c.b); got != c.want || e != api.OK {
			t.Error(i, got, e)
		}
	}
	for n := 0; n < 300; n += 7 {
		b := some(n, uint32(n))
		if got, e := crc.Of(b); got != slow(65535, b) || e != api.OK {
			t.Error(n, got, e)
		}
	}
	for i, b := range [][]byte{{2}, {255}, {1, 0, 1, 2}, {2, 0, 0}} {
		if got, e := crc.Of(b); got != 0 || e != api.ErrBad {
			t.Error(i, got, e)
		}
	}
}

func TestOver(t *testing.T) {
	for i, c := range []struct {
		sum  int
		b    []byte
		want int
		e    api.Errno
	}{
		{0, []byte{1}, 32773, api.OK},
		{0, []byte{0}, 0, api.OK},
		{0, nil, 0, api.OK},
		{65535, nil, 65535, api.OK},
		{32768, []byte{1}, 0, api.OK},
		{32768, []byte{0}, 32773, api.OK},
		{65536, nil, 0, api.ErrArg},
		{-1, nil, 0, api.ErrArg},
		{65536, []byte{2}, 0, api.ErrArg},
		{math.MinInt, []byte{2}, 0, api.ErrArg},
		{math.MaxInt, nil, 0, api.ErrArg},
		{5, []byte{0, 2}, 0, api.ErrBad},
	} {
		if got, e := crc.Over(c.sum, c.b); got != c.want || e != c.e {
			t.Error(i, got, e)
		}
	}
	b := some(200, 5)
	for cut := range b {
		front, _ := crc.Of(b[:cut])
		got, e := crc.Over(front, b[cut:])
		if whole, _ := crc.Of(b); got != whole || e != api.OK {
			t.Error(cut, got, e)
		}
	}
}

// TestRead holds P2.2.
func TestRead(t *testing.T) {
	b := append(some(50, 3), 7)[:50]
	was := bytes.Clone(b)
	crc.Of(b)
	crc.Over(9, b)
	if !bytes.Equal(b, was) || b[:51][50] != 7 {
		t.Error("written to")
	}
}

// TestTurned holds P2.3: what is turned among 16 is told, unlike sums stay so, and three sums are that of three lists.
func TestTurned(t *testing.T) {
	b := some(40, 11)
	right, _ := crc.Of(b)
	for at := 0; at+16 <= len(b); at += 3 {
		for mask := 1; mask < 65536; mask++ {
			c := bytes.Clone(b)
			for i := 0; i < 16; i++ {
				c[at+i] ^= byte(mask >> i & 1)
			}
			if got, _ := crc.Of(c); got == right {
				t.Fatal(at, mask)
			}
		}
	}
	seen := make([]bool, 65536)
	for sum := range seen {
		got, _ := crc.Over(sum, b)
		if seen[got] {
			t.Fatal("two sums become one", got)
		}
		seen[got] = true
	}
	x, y, z := some(90, 1), some(90, 2), some(90, 3)
	w := make([]byte, 90)
	for i := range w {
		w[i] = x[i] ^ y[i] ^ z[i]
	}
	sx, _ := crc.Of(x)
	sy, _ := crc.Of(y)
	sz, _ := crc.Of(z)
	if sw, _ := crc.Of(w); sw != sx^sy^sz {
		t.Error(sw, sx, sy, sz)
	}
}
