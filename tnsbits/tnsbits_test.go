package tnsbits_test

import (
	"bytes"
	"math"
	"slices"
	"testing"

	"reedpipe/api"
	"reedpipe/tnsbits"
)

func long() api.Info { return api.Info{Max: 3, Groups: []int{1}} }

func shorts() api.Info { return api.Info{Seq: api.Shorts, Max: 3, Groups: []int{3, 5}} }

func same(a, b [][]api.Filter) bool {
	return slices.EqualFunc(a, b, func(a, b []api.Filter) bool {
		return slices.EqualFunc(a, b, func(a, b api.Filter) bool {
			return a.Len == b.Len && a.Order == b.Order && a.Down == b.Down && a.Fine == b.Fine && slices.Equal(a.Coefs, b.Coefs)
		})
	})
}

type dice uint32

func (d *dice) roll(n int) int {
	*d = *d*1664525 + 1013904223
	return int(*d>>8) % n
}

// filters are some that may be; half of them are narrow.
func (d *dice) filters(short bool) []api.Filter {
	many, length, order, fine := 4, 64, 13, d.roll(2)
	if short {
		many, length, order = 2, 16, 8
	}
	var out []api.Filter
	for range d.roll(many) {
		f := api.Filter{Len: d.roll(length), Order: d.roll(order), Fine: fine == 1}
		f.Down = f.Order > 0 && d.roll(2) == 1
		half := 4 << fine >> d.roll(2)
		for range f.Order {
			f.Coefs = append(f.Coefs, d.roll(2*half)-half)
		}
		out = append(out, f)
	}
	return out
}

func digits(n, size int) []byte {
	var out []byte
	for i := size - 1; i >= 0; i-- {
		out = append(out, byte(n>>i&1))
	}
	return out
}

func one(is bool) byte {
	if is {
		return 1
	}
	return 0
}

// plain are the bits of filters as chapter 21 tells them.
func plain(l [][]api.Filter) []byte {
	var out []byte
	a, b, c := 2, 6, 5
	if len(l) == 8 {
		a, b, c = 1, 4, 3
	}
	for _, filters := range l {
		out = append(out, digits(len(filters), a)...)
		for i, f := range filters {
			if i == 0 {
				out = append(out, one(f.Fine))
			}
			out = append(append(out, digits(f.Len, b)...), digits(f.Order, c)...)
			if f.Order == 0 {
				continue
			}
			size, low, high := 3, -2, 1
			if f.Fine {
				size, low, high = 4, -4, 3
			}
			small := slices.Min(f.Coefs) >= low && slices.Max(f.Coefs) <= high
			out = append(out, one(f.Down), one(small))
			if small {
				size--
			}
			for _, c := range f.Coefs {
				out = append(out, digits(c, size)...)
			}
		}
	}
	return out
}

func TestBits(t *testing.T) {
	d := dice(2)
	for n := range 3000 {
		i, l := long(), [][]api.Filter{d.filters(false)}
		if n%2 == 1 {
			i, l = shorts(), nil
			for range 8 {
				l = append(l, d.filters(true))
			}
		}
		if e := tnsbits.Check(i, l); e != api.OK {
			t.Fatal(n, l, e)
		}
		want := append([]byte{7, 1}, plain(l)...)
		got, e := tnsbits.Put([]byte{7, 1}, i, l)
		if e != api.OK || !bytes.Equal(got, want) {
			t.Fatal(n, l, got, want, e)
		}
		back, next, e := tnsbits.Get(append(slices.Clone(want), 1, 9), 2, i)
		if e != api.OK || next != len(want) || !same(back, l) {
			t.Fatal(n, l, back, next, e)
		}
		for cut := 2; cut < len(want); cut += 1 + d.roll(7) {
			if back, next, e := tnsbits.Get(want[:cut], 2, i); e != api.ErrEnd || next != 0 || len(back) != 0 {
				t.Fatal(n, cut, back, next, e)
			}
		}
	}
}

func TestExamples(t *testing.T) {
	for n, c := range []struct {
		l    []api.Filter
		want []byte
	}{
		{nil, []byte{0, 0}},
		{[]api.Filter{{Len: 1, Order: 1, Down: true, Coefs: []int{-2}}}, []byte{0, 1, 0, 0, 0, 0, 0, 0, 1, 0, 0, 0, 0, 1, 1, 1, 1, 0}},
		{[]api.Filter{{Len: 1, Order: 1, Fine: true, Coefs: []int{4}}}, []byte{0, 1, 1, 0, 0, 0, 0, 0, 1, 0, 0, 0, 0, 1, 0, 0, 0, 1, 0, 0}},
	} {
		if got, e := tnsbits.Put(nil, long(), [][]api.Filter{c.l}); e != api.OK || !bytes.Equal(got, c.want) {
			t.Error(n, got, e)
		}
	}
	if got, e := tnsbits.Put(nil, shorts(), make([][]api.Filter, 8)); e != api.OK || !bytes.Equal(got, make([]byte, 8)) {
		t.Error(got, e)
	}
}

func TestMayNot(t *testing.T) {
	short := func(f ...api.Filter) [][]api.Filter {
		l := make([][]api.Filter, 8)
		l[7] = f
		return l
	}
	far := []int{math.MinInt, math.MaxInt}
	for n, c := range []struct {
		i api.Info
		l [][]api.Filter
	}{
		{api.Info{}, [][]api.Filter{nil}},
		{api.Info{Max: 41, Groups: []int{1}}, [][]api.Filter{nil}},
		{api.Info{Seq: 2, Max: 8, Groups: []int{8}}, short()},
		{long(), nil}, {long(), make([][]api.Filter, 2)}, {shorts(), make([][]api.Filter, 7)}, {shorts(), make([][]api.Filter, 9)}, {shorts(), make([][]api.Filter, 2)},
		{long(), [][]api.Filter{make([]api.Filter, 4)}}, {shorts(), short(api.Filter{}, api.Filter{})},
		{long(), [][]api.Filter{{{Len: 64}}}}, {long(), [][]api.Filter{{{Len: -1}}}}, {long(), [][]api.Filter{{{Len: far[0]}}}}, {long(), [][]api.Filter{{{Len: far[1]}}}},
		{shorts(), short(api.Filter{Len: 16})}, {shorts(), short(api.Filter{Order: 8, Coefs: make([]int, 8)})},
		{long(), [][]api.Filter{{{Order: 13, Coefs: make([]int, 13)}}}}, {long(), [][]api.Filter{{{Order: -1}}}}, {long(), [][]api.Filter{{{Order: 1}}}}, {long(), [][]api.Filter{{{Coefs: []int{0}}}}}, {long(), [][]api.Filter{{{Order: far[1]}}}},
		{long(), [][]api.Filter{{{Down: true}}}}, {long(), [][]api.Filter{{{}, {Fine: true}}}}, {long(), [][]api.Filter{{{Fine: true}, {Fine: true}, {}}}},
		{long(), [][]api.Filter{{{Order: 2, Coefs: []int{0, 4}}}}}, {long(), [][]api.Filter{{{Order: 2, Coefs: []int{-5, 0}}}}}, {long(), [][]api.Filter{{{Order: 1, Fine: true, Coefs: []int{8}}}}}, {long(), [][]api.Filter{{{Order: 1, Fine: true, Coefs: []int{-9}}}}},
		{long(), [][]api.Filter{{{Order: 1, Coefs: far[:1]}}}}, {long(), [][]api.Filter{{{}, {}, {Order: 1, Coefs: far[1:]}}}},
	} {
		if e := tnsbits.Check(c.i, c.l); e != api.ErrBad {
			t.Error(n, e)
		}
		if b, e := tnsbits.Put([]byte{1}, c.i, c.l); e != api.ErrBad || len(b) != 0 {
			t.Error(n, b, e)
		}
	}
	// Windows may differ in how fine their filters are.
	l := short(api.Filter{Fine: true, Len: 15})
	l[0] = []api.Filter{{Order: 7, Coefs: []int{3, -4, 0, 0, 0, 0, 0}}}
	if e := tnsbits.Check(shorts(), l); e != api.OK {
		t.Error(e)
	}
}

func TestGetErrors(t *testing.T) {
	join := func(l ...[]byte) []byte { return slices.Concat(l...) }
	wide := join(digits(1, 2), digits(0, 1), digits(1, 6), digits(1, 5), digits(0, 2), digits(1, 3)) // told to be not narrow, but 1
	for n, c := range []struct {
		b  []byte
		at int
		i  api.Info
		e  api.Errno
	}{
		{nil, 0, api.Info{}, api.ErrBad},
		{nil, -1, api.Info{Max: 41, Groups: []int{1}}, api.ErrBad},
		{nil, 0, long(), api.ErrEnd}, {nil, 1, long(), api.ErrArg}, {nil, -1, long(), api.ErrArg}, {nil, math.MaxInt, long(), api.ErrArg}, {nil, math.MinInt, shorts(), api.ErrArg},
		{wide, 0, long(), api.ErrBad},
		{wide[:len(wide)-1], 0, long(), api.ErrEnd},
		{join(digits(2, 2), wide[2:]), 0, long(), api.ErrEnd}, // in the end only
		{join(digits(2, 2), wide[2:], digits(0, 11)), 0, long(), api.ErrBad},
		{join(digits(1, 2), digits(0, 1), digits(1, 6), digits(13, 5)), 0, long(), api.ErrBad}, // as soon as it is above 12
		{join(digits(1, 2), digits(0, 1), digits(1, 6), digits(31, 5)), 0, long(), api.ErrBad},
		{join(digits(1, 2), digits(0, 1), digits(1, 6), digits(12, 5)), 0, long(), api.ErrEnd},
		{join(digits(1, 2), digits(1, 1), digits(1, 6), digits(2, 5), digits(0, 2), digits(3, 4), digits(12, 4)), 0, long(), api.ErrBad},
		{[]byte{2, 0}, 0, long(), api.ErrBad}, {[]byte{2}, 0, long(), api.ErrEnd},
		{join(digits(1, 2), []byte{2}), 0, long(), api.ErrBad},
		{make([]byte, 7), 0, shorts(), api.ErrEnd},
	} {
		if l, next, e := tnsbits.Get(c.b, c.at, c.i); e != c.e || next != 0 || len(l) != 0 {
			t.Error(n, l, next, e)
		}
	}
	edge := join(digits(1, 2), digits(1, 1), digits(1, 6), digits(2, 5), digits(0, 2), digits(4, 4), digits(8, 4))
	if l, next, e := tnsbits.Get(edge, 0, long()); e != api.OK || next != len(edge) || !same(l, [][]api.Filter{{{Len: 1, Order: 2, Fine: true, Coefs: []int{4, -8}}}}) {
		t.Error(l, next, e)
	}
}

// TestMemory holds P21.2.
func TestMemory(t *testing.T) {
	room := bytes.Repeat([]byte{1, 0}, 40)
	was := bytes.Clone(room)
	l := [][]api.Filter{{{Len: 1, Order: 2, Coefs: []int{-2, 3}}, {Order: 1, Coefs: []int{1}}}}
	got, _ := tnsbits.Put(room[:3], long(), l)
	clear(got)
	b, _ := tnsbits.Put(nil, long(), l)
	a, _, _ := tnsbits.Get(b, 0, long())
	_ = append(a[0][0].Coefs, 77)
	if !bytes.Equal(room, was) || !same(a, l) || l[0][0].Coefs[0] != -2 {
		t.Error("written to")
	}
}

// TestGrammar holds P21.3: what is got is put as these bits.
func TestGrammar(t *testing.T) {
	d := dice(7)
	for n := range 100000 {
		b := make([]byte, 120)
		for i := range b {
			b[i] = byte(d.roll(2))
		}
		i := long()
		if n%2 == 1 {
			i = shorts()
		}
		l, next, e := tnsbits.Get(b, 0, i)
		if e != api.OK {
			continue
		}
		if again, e := tnsbits.Put(nil, i, l); e != api.OK || !bytes.Equal(again, b[:next]) {
			t.Fatal(n, l, e)
		}
	}
}
