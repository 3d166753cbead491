package huff_test

import (
	"bytes"
	"math"
	"slices"
	"testing"

	"reedpipe/api"
	"reedpipe/book"
	"reedpipe/huff"
)

var limits = []int{0, 1, 1, 2, 2, 4, 4, 7, 7, 12, 12, 8191}

func dim(id int) int {
	if id <= 4 {
		return 4
	}
	return 2
}

func get(id int) api.Book {
	k, _ := book.Get(id)
	return k
}

// plain are the bits of values as chapter 9 tells them.
func plain(id int, values []int) []byte {
	k := get(id)
	signed := id <= 2 || id == 5 || id == 6
	var sizes []int
	for _, v := range values {
		if !signed && v < 0 {
			v = -v
		}
		if id == 11 && v > 16 {
			v = 16
		}
		sizes = append(sizes, v)
	}
	n, _ := book.Entry(id, sizes)
	out, _ := book.Code(k, n)
	if signed {
		return out
	}
	for _, v := range values {
		if v < 0 {
			out = append(out, 1)
		} else if v > 0 {
			out = append(out, 0)
		}
	}
	for _, v := range values {
		v = max(v, -v)
		if id != 11 || v < 16 {
			continue
		}
		n := 0
		for v >= 1<<(n+5) {
			n++
			out = append(out, 1)
		}
		out = append(out, 0)
		for i := n + 3; i >= 0; i-- {
			out = append(out, byte(v>>i&1))
		}
	}
	return out
}

// some are values that fit a book, with the edges among them.
func some(id int) [][]int {
	l := limits[id]
	edges := []int{0, 1, -1, l, -l, l - 1, l / 2}
	if id == 11 {
		edges = append(edges, 2, 15, 16, -16, 17, 31, 32, -63, 64, 127, 128, 255, 256, 511, 512, 1023, 1024, 2047, 2048, 4095, -4096)
	}
	var out [][]int
	for i, a := range edges {
		for j, b := range edges {
			v := []int{a, b}
			if dim(id) == 4 {
				v = []int{a, b, edges[(i+j)%len(edges)], edges[(2*i+j)%len(edges)]}
			}
			out = append(out, v)
		}
	}
	return out
}

func TestFits(t *testing.T) {
	for id := 1; id <= 11; id++ {
		zero := make([]int, dim(id))
		for place := range zero {
			for v, want := range map[int]bool{0: true, limits[id]: true, -limits[id]: true, limits[id] + 1: false, -limits[id] - 1: false, math.MinInt: false, math.MaxInt: false} {
				l := slices.Clone(zero)
				l[place] = v
				if got, e := huff.Fits(id, l); got != want || e != api.OK {
					t.Error(id, l, got, e)
				}
			}
		}
		for _, n := range []int{0, 1, 2, 3, 4, 5} {
			want := api.ErrMany
			if n == dim(id) {
				want = api.OK
			}
			if got, e := huff.Fits(id, make([]int, n)); got != (want == api.OK) || e != want {
				t.Error(id, n, got, e)
			}
		}
	}
	for _, id := range []int{0, 12, 13, -1, math.MinInt, math.MaxInt} {
		for n := 0; n < 5; n++ {
			if got, e := huff.Fits(id, make([]int, n)); got || e != api.ErrArg {
				t.Error(id, got, e)
			}
		}
	}
}

func TestValues(t *testing.T) {
	for id := 1; id <= 11; id++ {
		k := get(id)
		for _, v := range some(id) {
			want := plain(id, v)
			got, e := huff.Put([]byte{9, 1}, k, v)
			if e != api.OK || !bytes.Equal(got, append([]byte{9, 1}, want...)) {
				t.Error(id, v, got, want, e)
			}
			if n, e := huff.Cost(k, v); n != len(want) || e != api.OK {
				t.Error(id, v, n, e)
			}
			for _, behind := range [][]byte{nil, {0}, {1, 1, 0}, {7}} {
				back, next, e := huff.Get(append(slices.Clone(got), behind...), 2, k)
				if e != api.OK || next != len(got) || !slices.Equal(back, v) {
					t.Error(id, v, back, next, e)
				}
			}
			for cut := 2; cut < len(got); cut++ {
				if back, next, e := huff.Get(got[:cut], 2, k); e != api.ErrEnd || next != 0 || len(back) != 0 {
					t.Error(id, v, cut, back, next, e)
				}
			}
		}
	}
}

func TestExamples(t *testing.T) {
	for i, c := range []struct {
		id   int
		v    []int
		want []byte
	}{{1, []int{0, 0, 0, 0}, []byte{1}}, {3, []int{0, 0, 0, 0}, []byte{1}}, {11, []int{0, 0}, []byte{1, 0, 0}}} {
		if got, e := huff.Put(nil, get(c.id), c.v); !bytes.Equal(got, c.want) || e != api.OK {
			t.Error(i, got, e)
		}
	}
}

func TestRefused(t *testing.T) {
	check := func(k api.Book, v []int, want api.Errno) {
		t.Helper()
		if got, e := huff.Put([]byte{1}, k, v); e != want || len(got) != 0 {
			t.Error(k.Id, v, got, e)
		}
		if got, e := huff.Cost(k, v); e != want || got != 0 {
			t.Error(k.Id, v, got, e)
		}
	}
	for id := 1; id <= 11; id++ {
		zero := make([]int, dim(id))
		check(get(id), zero[1:], api.ErrMany)
		check(get(id), nil, api.ErrMany)
		check(get(id), append(zero, limits[id]+1), api.ErrMany)
		for place := range zero {
			for _, v := range []int{limits[id] + 1, -limits[id] - 1, math.MinInt, math.MaxInt} {
				l := slices.Clone(zero)
				l[place] = v
				check(get(id), l, api.ErrArg)
			}
		}
	}
	check(get(12), []int{0}, api.ErrArg)
	check(get(12), []int{0, 0}, api.ErrArg)
	check(get(12), nil, api.ErrArg)
	for id := 1; id <= 12; id++ {
		for i := 0; i < 5; i++ {
			k := get(id)
			switch i {
			case 0:
				k.Plain++
			case 1:
				k.Entries = k.Entries[1:]
			case 2:
				k.Ranks[0], k.Ranks[1] = k.Ranks[1], k.Ranks[0]
			case 3:
				k.Id = id%12 + 1
			case 4:
				k.Id = 13
			}
			for n := 0; n < 5; n++ {
				check(k, make([]int, n), api.ErrBad)
			}
			for _, at := range []int{0, -1, 9} {
				if v, next, e := huff.Get([]byte{1, 0, 0, 0, 0}, at, k); e != api.ErrBad || next != 0 || len(v) != 0 {
					t.Error(id, i, v, next, e)
				}
			}
		}
	}
	check(api.Book{}, nil, api.ErrBad)
	check(api.Book{Id: math.MinInt}, nil, api.ErrBad)
}

func TestGetErrors(t *testing.T) {
	ones := func(n int) []byte { return bytes.Repeat([]byte{1}, n) }
	sixteen, _ := book.Code(get(11), 16*17) // 16 and 0
	sign := append(slices.Clone(sixteen), 0)
	for i, c := range []struct {
		id int
		b  []byte
		at int
		e  api.Errno
	}{
		{1, nil, 0, api.ErrEnd},
		{1, nil, 1, api.ErrArg},
		{1, nil, -1, api.ErrArg},
		{1, nil, math.MaxInt, api.ErrArg},
		{1, nil, math.MinInt, api.ErrArg},
		{1, make([]byte, 10), 0, api.ErrBad},
		{12, []byte{1}, 0, api.ErrArg},
		{12, []byte{2}, 0, api.ErrArg},
		{12, make([]byte, 10), 0, api.ErrArg},
		{12, nil, -1, api.ErrArg},
		{11, sixteen, 0, api.ErrEnd},
		{11, append(slices.Clone(sixteen), 2), 0, api.ErrBad},
		{11, sign, 0, api.ErrEnd},
		{11, append(slices.Clone(sign), ones(8)...), 0, api.ErrEnd},
		{11, append(slices.Clone(sign), ones(9)...), 0, api.ErrBad},
		{11, append(slices.Clone(sign), ones(30)...), 0, api.ErrBad},
		{11, append(slices.Clone(sign), 1, 2), 0, api.ErrBad},
		{11, append(slices.Clone(sign), 0, 2, 0, 0), 0, api.ErrEnd},
		{11, append(slices.Clone(sign), 0, 2, 0, 0, 0), 0, api.ErrBad},
		{11, append(append(slices.Clone(sign), ones(8)...), append([]byte{0}, ones(11)...)...), 0, api.ErrEnd},
	} {
		if v, next, e := huff.Get(c.b, c.at, get(c.id)); e != c.e || next != 0 || len(v) != 0 {
			t.Error(i, v, next, e)
		}
	}
	b := append(append(slices.Clone(sign), ones(8)...), append([]byte{0}, ones(12)...)...)
	if v, next, e := huff.Get(b, 0, get(11)); e != api.OK || next != len(b) || !slices.Equal(v, []int{8191, 0}) {
		t.Error(v, next, e)
	}
}

func TestSteps(t *testing.T) {
	k := get(12)
	for d := -60; d <= 60; d++ {
		want, _ := book.Code(k, d+60)
		got, e := huff.Step([]byte{4}, d)
		if e != api.OK || !bytes.Equal(got, append([]byte{4}, want...)) {
			t.Error(d, got, e)
		}
		if n, e := huff.StepCost(d); n != len(want) || e != api.OK {
			t.Error(d, n, e)
		}
		if back, next, e := huff.Stepped(append(slices.Clone(got), 0, 1, 3), 1); back != d || next != len(got) || e != api.OK {
			t.Error(d, back, next, e)
		}
	}
	for _, d := range []int{61, -61, math.MinInt, math.MaxInt} {
		if got, e := huff.Step([]byte{1}, d); e != api.ErrArg || len(got) != 0 {
			t.Error(d, got, e)
		}
		if n, e := huff.StepCost(d); e != api.ErrArg || n != 0 {
			t.Error(d, n, e)
		}
	}
	for i, c := range []struct {
		b  []byte
		at int
		e  api.Errno
	}{
		{nil, 0, api.ErrEnd}, {nil, 1, api.ErrArg}, {nil, -1, api.ErrArg}, {[]byte{2}, 0, api.ErrBad},
		{make([]byte, 10), 0, api.ErrBad}, {make([]byte, 9), 0, api.ErrEnd},
		{[]byte{0, 0, 0, 0, 0, 0, 1, 1, 1, 1, 0, 1, 0}, 0, api.ErrBad}, // rank 121
	} {
		if d, next, e := huff.Stepped(c.b, c.at); d != 0 || next != 0 || e != c.e {
			t.Error(i, d, next, e)
		}
	}
	if got, e := huff.Step(nil, 0); !bytes.Equal(got, []byte{1}) || e != api.OK {
		t.Error(got, e)
	}
	if d, next, e := huff.Stepped([]byte{0, 1, 1}, 0); d != 1 || next != 3 || e != api.OK {
		t.Error(d, next, e)
	}
}

// TestMemory holds P9.4.
func TestMemory(t *testing.T) {
	room := []byte{1, 0, 0, 9, 9, 9, 9, 9, 9, 9, 9, 9, 9, 9, 9, 9, 9, 9, 9, 9, 9, 9, 9, 9, 9, 9}
	was := bytes.Clone(room)
	for id := 1; id <= 11; id++ {
		k := get(id)
		v := some(id)[1]
		values := slices.Clone(v)
		got, _ := huff.Put(room[:3], k, v)
		clear(got)
		huff.Cost(k, v)
		huff.Fits(id, v)
		back, _, _ := huff.Get(room[:3], 0, k)
		clear(back)
		if fresh := get(id); !slices.Equal(v, values) || !slices.Equal(k.Entries, fresh.Entries) || !slices.Equal(k.Ranks, fresh.Ranks) {
			t.Error(id)
		}
	}
	got, _ := huff.Step(room[:3], 7)
	clear(got)
	if !bytes.Equal(room, was) {
		t.Error(room)
	}
}

// TestFollows holds P9.5: what is got is put as these bits, and signs cost nothing where entries have none.
func TestFollows(t *testing.T) {
	for id := 1; id <= 11; id++ {
		k := get(id)
		for word := 0; word < 1<<14; word++ {
			b := make([]byte, 14, 60)
			for i := range b {
				b[i] = byte(word >> i & 1)
			}
			v, next, e := huff.Get(append(b, bytes.Repeat([]byte{0, 1}, 20)...), 0, k)
			if e != api.OK {
				continue
			}
			if fits, e := huff.Fits(id, v); !fits || e != api.OK {
				t.Error(id, v)
			}
			again, e := huff.Put(nil, k, v)
			if e != api.OK || !bytes.Equal(again, append(b, bytes.Repeat([]byte{0, 1}, 20)...)[:next]) {
				t.Error(id, word, v)
			}
			for i := range v {
				v[i] = -v[i]
			}
			n, e := huff.Cost(k, v)
			if e != api.OK || n != next && id != 1 && id != 2 && id != 5 && id != 6 {
				t.Error(id, v, n, next, e)
			}
		}
	}
}
