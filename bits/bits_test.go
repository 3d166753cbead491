package bits_test

import (
	"bytes"
	"math"
	"testing"

	"reedpipe/api"
	"reedpipe/bits"
)

// TestPut holds P1.1's first half: what is put stands behind, the highest bit first.
func TestPut(t *testing.T) {
	for i, c := range []struct {
		b       []byte
		n, size int
		want    []byte
	}{
		{nil, 5, 4, []byte{0, 1, 0, 1}},
		{[]byte{1}, 5, 4, []byte{1, 0, 1, 0, 1}},
		{[]byte{9, 255}, 0, 0, []byte{9, 255}},
		{nil, 0, 0, nil},
		{nil, 6, 3, []byte{1, 1, 0}},
		{nil, 0, 3, []byte{0, 0, 0}},
		{[]byte{7}, 1, 1, []byte{7, 1}},
		{nil, 1 << 30, 31, append([]byte{1}, make([]byte, 30)...)},
		{nil, math.MaxInt32, 31, bytes.Repeat([]byte{1}, 31)},
	} {
		got, e := bits.Put(c.b, c.n, c.size)
		if e != api.OK || !bytes.Equal(got, c.want) {
			t.Error(i, got, e)
		}
	}
}

func TestPutRefuses(t *testing.T) {
	for i, c := range [][2]int{{-1, 3}, {8, 3}, {4, 2}, {1, 0}, {0, -1}, {0, 32}, {1 << 31, 31}, {1 << 31, 32}, {math.MinInt, 5}, {math.MaxInt, 31}, {0, math.MinInt}, {0, math.MaxInt}, {0, 64}} {
		if got, e := bits.Put([]byte{1}, c[0], c[1]); e != api.ErrArg || len(got) != 0 {
			t.Error(i, got, e)
		}
	}
}

// TestGet holds P1.1's second half, with what goes first where two things are wrong.
func TestGet(t *testing.T) {
	b := []byte{1, 0, 1, 0, 1, 2, 1}
	for i, c := range []struct {
		at, size, n, next int
		e                 api.Errno
	}{
		{1, 4, 5, 5, api.OK},
		{0, 5, 21, 5, api.OK},
		{0, 0, 0, 0, api.OK},
		{7, 0, 0, 7, api.OK},
		{5, 0, 0, 5, api.OK},
		{6, 1, 1, 7, api.OK},
		{4, 2, 0, 0, api.ErrBad},
		{5, 1, 0, 0, api.ErrBad},
		{5, 2, 0, 0, api.ErrBad},
		{5, 3, 0, 0, api.ErrEnd},
		{0, 8, 0, 0, api.ErrEnd},
		{7, 1, 0, 0, api.ErrEnd},
		{7, 31, 0, 0, api.ErrEnd},
		{8, 0, 0, 0, api.ErrArg},
		{8, 1, 0, 0, api.ErrArg},
		{-1, 1, 0, 0, api.ErrArg},
		{0, 32, 0, 0, api.ErrArg},
		{0, -1, 0, 0, api.ErrArg},
		{math.MaxInt, 31, 0, 0, api.ErrArg},
		{math.MinInt, 0, 0, 0, api.ErrArg},
		{0, math.MaxInt, 0, 0, api.ErrArg},
	} {
		n, next, e := bits.Get(b, c.at, c.size)
		if n != c.n || next != c.next || e != c.e {
			t.Error(i, n, next, e)
		}
	}
	if n, next, e := bits.Get(bytes.Repeat([]byte{1}, 31), 0, 31); n != math.MaxInt32 || next != 31 || e != api.OK {
		t.Error(n, next, e)
	}
	if _, _, e := bits.Get(bytes.Repeat([]byte{255}, 4), 0, 4); e != api.ErrBad {
		t.Error(e)
	}
}

// TestPack holds P1.2, to the last number of bits and of bytes.
func TestPack(t *testing.T) {
	for i, c := range [][2][]byte{
		{nil, nil},
		{{1, 0, 1}, {160}},
		{{1}, {128}},
		{{0}, {0}},
		{{0, 0, 0, 0, 0, 0, 0, 1}, {1}},
		{{0, 0, 0, 0, 0, 0, 0, 1, 1}, {1, 128}},
		{{1, 1, 1, 1, 1, 1, 1, 1, 0, 0, 0, 0, 0, 0, 1, 0}, {255, 2}},
	} {
		if got, e := bits.Pack(c[0]); e != api.OK || !bytes.Equal(got, c[1]) {
			t.Error(i, got, e)
		}
	}
	for i, b := range [][]byte{{2}, {0, 1, 255}, {1, 1, 1, 1, 1, 1, 1, 1, 2}} {
		if got, e := bits.Pack(b); e != api.ErrBad || len(got) != 0 {
			t.Error(i, got, e)
		}
	}
	long := make([]byte, api.MaxBytes+1)
	long[api.MaxBytes-1] = 1
	if got, e := bits.Pack(long[:api.MaxBytes]); e != api.OK || len(got) != api.MaxBytes/8 || got[len(got)-1] != 1 {
		t.Error(len(got), e)
	}
	long[0] = 2
	if got, e := bits.Pack(long); e != api.ErrText || len(got) != 0 {
		t.Error(len(got), e)
	}
}

func TestUnpack(t *testing.T) {
	for i, c := range [][2][]byte{
		{nil, nil},
		{{160}, {1, 0, 1, 0, 0, 0, 0, 0}},
		{{255, 3}, {1, 1, 1, 1, 1, 1, 1, 1, 0, 0, 0, 0, 0, 0, 1, 1}},
	} {
		if got, e := bits.Unpack(c[0]); e != api.OK || !bytes.Equal(got, c[1]) {
			t.Error(i, got, e)
		}
	}
	long := make([]byte, 1<<21+1)
	if got, e := bits.Unpack(long[:1<<21]); e != api.OK || len(got) != 1<<24 {
		t.Error(len(got), e)
	}
	if got, e := bits.Unpack(long); e != api.ErrText || len(got) != 0 {
		t.Error(len(got), e)
	}
}

// TestMemory holds P1.3: nothing that is handed in is written to, its spare room neither.
func TestMemory(t *testing.T) {
	room := []byte{1, 1, 9, 9, 9, 9, 9, 9, 9, 9}
	b := room[:2]
	got, _ := bits.Put(b, 0, 4)
	for i := range got {
		got[i] = 77
	}
	none, _ := bits.Put(b, 0, 0)
	none[0] = 77
	packed, _ := bits.Pack(b)
	packed[0] = 77
	spread, _ := bits.Unpack(b)
	spread[0] = 77
	bits.Get(b, 0, 2)
	if !bytes.Equal(room, []byte{1, 1, 9, 9, 9, 9, 9, 9, 9, 9}) {
		t.Error(room)
	}
}

// TestBack holds P1.4.
func TestBack(t *testing.T) {
	for size := 0; size <= 31; size++ {
		for _, n := range []int{0, 1, 1<<size - 1, 1 << size / 2, 0x2B5C93A7 % (1 << size)} {
			if n >= 1<<size {
				continue
			}
			for at := 0; at < 3; at++ {
				b, e := bits.Put(bytes.Repeat([]byte{3}, at), n, size)
				if e != api.OK || len(b) != at+size {
					t.Fatal(n, size, e)
				}
				got, next, e := bits.Get(append(b, 1, 0, 5), at, size)
				if got != n || next != at+size || e != api.OK {
					t.Error(n, size, at, got, next, e)
				}
			}
		}
	}
	var all []byte
	for i := 0; i < 256; i++ {
		all = append(all, byte(i*167))
	}
	spread, _ := bits.Unpack(all)
	if again, e := bits.Pack(spread); e != api.OK || !bytes.Equal(again, all) {
		t.Error(e)
	}
	for n := 0; n < 40; n++ {
		packed, _ := bits.Pack(spread[77 : 77+n])
		again, _ := bits.Unpack(packed)
		if len(again)-n > 7 || !bytes.Equal(again[:n], spread[77:77+n]) || bytes.ContainsRune(again[n:], 1) {
			t.Error(n, again)
		}
	}
}
