package sect_test

import (
	"bytes"
	"math"
	"slices"
	"testing"

	"reedpipe/api"
	"reedpipe/sect"
)

func long(most int) api.Info { return api.Info{Max: most, Groups: []int{1}} }

func shorts(most int, groups ...int) api.Info {
	return api.Info{Seq: api.Shorts, Max: most, Groups: groups}
}

// list are sections, told by books and lengths in turn.
func list(n ...int) []api.Section {
	var out []api.Section
	for i := 0; i < len(n); i += 2 {
		out = append(out, api.Section{Book: n[i], Len: n[i+1]})
	}
	return out
}

func lists(l ...[]api.Section) [][]api.Section { return l }

func same(a, b [][]api.Section) bool {
	return slices.EqualFunc(a, b, func(a, b []api.Section) bool { return slices.Equal(a, b) })
}

func digits(n, size int) []byte {
	var out []byte
	for i := size - 1; i >= 0; i-- {
		out = append(out, byte(n>>i&1))
	}
	return out
}

// plain are the bits of sections as chapter 19 tells them.
func plain(i api.Info, l [][]api.Section) []byte {
	var out []byte
	size, most := 5, 31
	if i.Seq == api.Shorts {
		size, most = 3, 7
	}
	for _, sections := range l {
		for _, s := range sections {
			out = append(out, digits(s.Book, 4)...)
			for range s.Len / most {
				out = append(out, digits(most, size)...)
			}
			out = append(out, digits(s.Len%most, size)...)
		}
	}
	return out
}

type some struct {
	i api.Info
	l [][]api.Section
}

func all() []some {
	return []some{
		{long(3), lists(list(2, 3))},
		{long(0), lists(nil)},
		{long(40), lists(list(13, 40))},
		{long(31), lists(list(0, 31))},
		{long(32), lists(list(0, 32))},
		{long(40), lists(list(11, 30, 0, 1, 1, 9))},
		{long(40), lists(list(3, 31, 3, 1, 3, 8))},
		{api.Info{Seq: 3, Max: 5, Groups: []int{1}}, lists(list(1, 1, 2, 1, 3, 1, 4, 1, 5, 1))},
		{api.Info{Seq: 1, Shape: 1, Max: 5, Groups: []int{1}}, lists(list(6, 1, 7, 1, 8, 1, 9, 1, 10, 1))},
		{shorts(7, 8), lists(list(11, 7))},
		{shorts(7, 3, 5), lists(list(11, 6, 0, 1), list(13, 7))},
		{shorts(0, 1, 1, 1, 1, 1, 1, 2), lists(nil, nil, nil, nil, nil, nil, nil)},
		{shorts(2, 1, 1, 1, 1, 1, 1, 2), lists(list(1, 2), list(2, 1, 2, 1), list(3, 2), list(4, 1, 0, 1), list(5, 2), list(0, 2), list(13, 1, 1, 1))},
	}
}

func TestBits(t *testing.T) {
	for n, c := range all() {
		if e := sect.Check(c.i, c.l); e != api.OK {
			t.Error(n, e)
		}
		want := append([]byte{7, 1}, plain(c.i, c.l)...)
		got, e := sect.Put([]byte{7, 1}, c.i, c.l)
		if e != api.OK || !bytes.Equal(got, want) {
			t.Error(n, got, e)
		}
		for _, behind := range [][]byte{nil, {1, 0}, {9}} {
			l, next, e := sect.Get(append(slices.Clone(want), behind...), 2, c.i)
			if e != api.OK || next != len(want) || !same(l, c.l) {
				t.Error(n, l, next, e)
			}
		}
		for cut := 2; cut < len(want); cut++ {
			if l, next, e := sect.Get(want[:cut], 2, c.i); e != api.ErrEnd || next != 0 || len(l) != 0 {
				t.Error(n, cut, l, next, e)
			}
		}
	}
	for i, c := range []struct {
		i    api.Info
		l    []api.Section
		want []byte
	}{
		{long(3), list(2, 3), []byte{0, 0, 1, 0, 0, 0, 0, 1, 1}},
		{shorts(7, 8), list(11, 7), []byte{1, 0, 1, 1, 1, 1, 1, 0, 0, 0}},
	} {
		if got, e := sect.Put(nil, c.i, lists(c.l)); e != api.OK || !bytes.Equal(got, c.want) {
			t.Error(i, got, e)
		}
	}
}

func TestMayNot(t *testing.T) {
	far := []int{math.MinInt, math.MaxInt}
	for n, c := range []some{
		{long(41), lists(list(1, 41))},
		{long(-1), lists(nil)},
		{api.Info{}, nil},
		{api.Info{Seq: 4, Max: 1, Groups: []int{1}}, lists(list(1, 1))},
		{api.Info{Shape: 2, Max: 1, Groups: []int{1}}, lists(list(1, 1))},
		{shorts(8, 8), lists(list(1, 8))},
		{shorts(1, 7), lists(list(1, 1))},
		{long(3), nil},
		{long(3), lists(list(2, 3), nil)},
		{long(3), lists(list(2, 2))},
		{long(3), lists(list(2, 4))},
		{long(3), lists(list(2, 3, 1, 1))},
		{long(3), lists(list(2, 3, 1, 0))},
		{long(3), lists(list(1, 0, 2, 3))},
		{long(3), lists(list(2, 4, 1, -1))},
		{long(3), lists(list(12, 3))},
		{long(3), lists(list(14, 3))},
		{long(3), lists(list(-1, 3))},
		{long(3), lists(list(1, 2, 15, 1))},
		{long(3), lists(list(2, far[1], 1, far[1], 0, 5))},
		{long(3), lists(list(2, far[0], 1, far[0], 0, 3))},
		{long(3), lists(list(far[0], 3))},
		{long(0), lists(list(1, 1))},
		{shorts(2, 3, 5), lists(list(1, 2))},
		{shorts(2, 3, 5), lists(list(1, 2), list(1, 1))},
		{shorts(2, 3, 5), lists(list(1, 1), list(1, 2))},
		{shorts(2, 3, 5), lists(list(1, 2), list(1, 2), nil)},
	} {
		if e := sect.Check(c.i, c.l); e != api.ErrBad {
			t.Error(n, e)
		}
		if b, e := sect.Put([]byte{1}, c.i, c.l); e != api.ErrBad || len(b) != 0 {
			t.Error(n, b, e)
		}
	}
}

func TestGetErrors(t *testing.T) {
	join := func(l ...[]byte) []byte { return slices.Concat(l...) }
	for n, c := range []struct {
		b  []byte
		at int
		i  api.Info
		e  api.Errno
	}{
		{nil, 0, long(41), api.ErrBad},
		{nil, 9, api.Info{}, api.ErrBad}, // windows go first
		{nil, -1, shorts(8, 8), api.ErrBad},
		{nil, 1, long(3), api.ErrArg},
		{nil, -1, long(3), api.ErrArg},
		{nil, 1, long(0), api.ErrArg},
		{nil, math.MinInt, long(0), api.ErrArg},
		{nil, math.MaxInt, long(0), api.ErrArg},
		{nil, 0, long(3), api.ErrEnd},
		{join(digits(2, 4), digits(4, 5)), 0, long(3), api.ErrBad},
		{join(digits(2, 4), digits(0, 5)), 0, long(3), api.ErrBad},
		{join(digits(12, 4), digits(3, 5)), 0, long(3), api.ErrBad},
		{digits(12, 4), 0, long(3), api.ErrBad}, // as soon as it may not be
		{digits(14, 4), 0, long(3), api.ErrBad},
		{digits(15, 4), 0, long(3), api.ErrBad},
		{join(digits(13, 4), digits(2, 5)), 0, long(3), api.ErrEnd},
		{join(digits(2, 4), digits(2, 5), digits(12, 4)), 0, long(3), api.ErrBad},
		{join(digits(2, 4), digits(2, 5), digits(1, 4), digits(2, 5)), 0, long(3), api.ErrBad},
		{join(digits(2, 4), digits(31, 5), digits(0, 5)), 0, long(30), api.ErrBad},
		{join(digits(2, 4), digits(31, 5), digits(31, 5), digits(0, 5)), 0, long(40), api.ErrBad},
		{join(digits(2, 4), digits(31, 5)), 0, long(31), api.ErrEnd},
		{join(digits(2, 4), digits(7, 3)), 0, shorts(7, 8), api.ErrEnd},
		{join(digits(2, 4), digits(7, 3), digits(1, 3)), 0, shorts(7, 8), api.ErrBad},
		{join(digits(2, 4), digits(2, 3), digits(1, 4), digits(3, 3)), 0, shorts(2, 3, 5), api.ErrBad},
		{[]byte{2, 0, 0, 0}, 0, long(3), api.ErrBad},
		{[]byte{2, 0, 0}, 0, long(3), api.ErrEnd},
		{[]byte{0, 0, 0, 1, 0, 2, 0, 0, 0}, 0, long(3), api.ErrBad},
		{[]byte{0, 0, 0, 1, 0, 2, 0, 0}, 0, long(3), api.ErrEnd},
	} {
		if l, next, e := sect.Get(c.b, c.at, c.i); e != c.e || next != 0 || len(l) != 0 {
			t.Error(n, l, next, e)
		}
	}
	if l, next, e := sect.Get([]byte{9, 9}, 2, long(0)); e != api.OK || next != 2 || !same(l, lists(nil)) {
		t.Error(l, next, e)
	}
}

// TestMemory holds P19.2.
func TestMemory(t *testing.T) {
	room := bytes.Repeat([]byte{1, 0}, 30)
	was := bytes.Clone(room)
	i, l := shorts(2, 3, 5), lists(list(1, 2), list(2, 2))
	got, _ := sect.Put(room[:3], i, l)
	clear(got)
	b, _ := sect.Put(nil, i, l)
	a, _, _ := sect.Get(b, 0, i)
	_ = append(a[0], api.Section{Book: 7})
	if !bytes.Equal(room, was) || !same(a, l) || !same(l, lists(list(1, 2), list(2, 2))) || i.Groups[0] != 3 {
		t.Error("written to")
	}
}

// TestGrammar holds P19.3: what is got is put as these bits.
func TestGrammar(t *testing.T) {
	for _, i := range []api.Info{long(3), long(40), shorts(1, 3, 5), shorts(7, 8)} {
		for word := 0; word < 1<<18; word += 3 {
			b := digits(word, 18)
			l, next, e := sect.Get(b, 0, i)
			if e != api.OK {
				continue
			}
			if again, e := sect.Put(nil, i, l); e != api.OK || !bytes.Equal(again, b[:next]) {
				t.Fatal(i, word, l, e)
			}
		}
	}
}
