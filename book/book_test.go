package book_test

import (
	"bytes"
	"math"
	"slices"
	"sort"
	"strings"
	"testing"

	"reedpipe/api"
	"reedpipe/book"
)

// rows are chapter 8's: Dim, Low, High, Plain of each book.
var rows = [][4]int{
	{4, -1, 1, 0}, {4, -1, 1, 1}, {4, 0, 2, 0}, {4, 0, 2, 1}, {2, -4, 4, 0}, {2, -4, 4, 1},
	{2, 0, 7, 1}, {2, 0, 7, 2}, {2, 0, 12, 1}, {2, 0, 12, 2}, {2, 0, 16, 2}, {1, -60, 60, 0},
}

// entries are all lists of values, in order.
func entries(row [4]int) [][]int {
	out := [][]int{{}}
	for i := 0; i < row[0]; i++ {
		var next [][]int
		for _, l := range out {
			for v := row[1]; v <= row[2]; v++ {
				next = append(next, append(slices.Clone(l), v))
			}
		}
		out = next
	}
	return out
}

func size(l []int) int {
	n := 0
	for _, v := range l {
		n += max(v, -v)
	}
	return n
}

// ranked are the numbers of entries, those of lesser sums first.
func ranked(all [][]int) []int {
	out := make([]int, len(all))
	for i := range out {
		out[i] = i
	}
	sort.SliceStable(out, func(a, b int) bool { return size(all[out[a]]) < size(all[out[b]]) })
	return out
}

// code is that of a rank, written as digits.
func code(rank, plain int) []byte {
	digits := func(n, size int) string {
		s := ""
		for i := 0; i < size; i++ {
			s = string(rune('0'+n%2)) + s
			n /= 2
		}
		return s
	}
	n, m := rank>>plain+1, 0
	for n>>m > 0 {
		m++
	}
	s := strings.Repeat("0", m-1) + digits(n, m) + digits(rank, plain)
	b := []byte(s)
	for i := range b {
		b[i] -= '0'
	}
	return b
}

func TestBooks(t *testing.T) {
	for i, row := range rows {
		id := i + 1
		all := entries(row)
		order := ranked(all)
		k, e := book.Get(id)
		if e != api.OK || k.Id != id || k.Plain != row[3] || !slices.Equal(k.Entries, order) || len(k.Ranks) != len(order) {
			t.Fatal(id, k, e)
		}
		for r, n := range order {
			if k.Ranks[n] != r {
				t.Error(id, n, k.Ranks[n])
			}
			if v, e := book.Values(id, n); !slices.Equal(v, all[n]) || e != api.OK {
				t.Error(id, n, v, e)
			}
			if got, e := book.Entry(id, all[n]); got != n || e != api.OK {
				t.Error(id, n, got, e)
			}
			want := code(r, row[3])
			got, e := book.Code(k, n)
			if !bytes.Equal(got, want) || e != api.OK || len(got) > 19 {
				t.Error(id, n, got, want, e)
			}
			for _, behind := range [][]byte{nil, {0, 0}, {1, 1, 1}, {7}} {
				b := append(append([]byte{5, 1}, want...), behind...)
				if got, next, e := book.Read(k, b, 2); got != n || next != 2+len(want) || e != api.OK {
					t.Error(id, n, got, next, e)
				}
			}
			for cut := range want {
				if got, next, e := book.Read(k, want[:cut], 0); got != 0 || next != 0 || e != api.ErrEnd {
					t.Error(id, n, cut, got, next, e)
				}
			}
		}
		if got, next, e := book.Read(k, append(code(len(all), row[3]), 1), 0); got != 0 || next != 0 || e != api.ErrBad {
			t.Error(id, got, next, e)
		}
	}
}

func TestExamples(t *testing.T) {
	if v, _ := book.Values(1, 40); !slices.Equal(v, []int{0, 0, 0, 0}) {
		t.Error(v)
	}
	if n, _ := book.Entry(1, []int{0, 0, 0, 0}); n != 40 {
		t.Error(n)
	}
	if n, _ := book.Entry(7, []int{2, 3}); n != 19 {
		t.Error(n)
	}
	k, _ := book.Get(12)
	for entry, want := range map[int][]byte{60: {1}, 59: {0, 1, 0}, 61: {0, 1, 1}} {
		if got, _ := book.Code(k, entry); !bytes.Equal(got, want) {
			t.Error(entry, got)
		}
	}
	if n, next, e := book.Read(k, []byte{0, 1, 1, 1}, 0); n != 61 || next != 3 || e != api.OK {
		t.Error(n, next, e)
	}
	k, _ = book.Get(2)
	if got, _ := book.Code(k, 40); !bytes.Equal(got, []byte{1, 0}) {
		t.Error(got)
	}
}

func TestArguments(t *testing.T) {
	for _, id := range []int{0, 13, -1, math.MinInt, math.MaxInt} {
		if k, e := book.Get(id); e != api.ErrArg || k.Id != 0 || k.Plain != 0 || len(k.Entries) != 0 || len(k.Ranks) != 0 {
			t.Error(id, k, e)
		}
		if v, e := book.Values(id, 0); e != api.ErrArg || len(v) != 0 {
			t.Error(id, v, e)
		}
		if n, e := book.Entry(id, []int{0}); e != api.ErrArg || n != 0 {
			t.Error(id, n, e)
		}
	}
	for i, row := range rows {
		many := len(entries(row))
		for _, n := range []int{-1, many, math.MinInt, math.MaxInt} {
			if v, e := book.Values(i+1, n); e != api.ErrArg || len(v) != 0 {
				t.Error(i, n, v, e)
			}
			k, _ := book.Get(i + 1)
			if c, e := book.Code(k, n); e != api.ErrArg || len(c) != 0 {
				t.Error(i, n, c, e)
			}
		}
		low := slices.Repeat([]int{row[1]}, row[0])
		for place := range low {
			for _, v := range []int{row[1] - 1, row[2] + 1, math.MinInt, math.MaxInt} {
				l := slices.Clone(low)
				l[place] = v
				if n, e := book.Entry(i+1, l); e != api.ErrArg || n != 0 {
					t.Error(i, l, n, e)
				}
				if n, e := book.Entry(i+1, append(l, v)); e != api.ErrMany || n != 0 {
					t.Error(i, l, n, e)
				}
			}
		}
		if n, e := book.Entry(i+1, low[1:]); e != api.ErrMany || n != 0 {
			t.Error(i, n, e)
		}
		if n, e := book.Entry(i+1, nil); e != api.ErrMany || n != 0 {
			t.Error(i, n, e)
		}
	}
}

// odd are books that are not the one of their Id.
func odd(k api.Book) []api.Book {
	last := len(k.Entries) - 1
	var out []api.Book
	change := func(how func(k *api.Book)) {
		c := k
		c.Entries, c.Ranks = slices.Clone(k.Entries), slices.Clone(k.Ranks)
		how(&c)
		out = append(out, c)
	}
	change(func(k *api.Book) { k.Id = 0 })
	change(func(k *api.Book) { k.Id = 13 })
	change(func(k *api.Book) { k.Id = k.Id%12 + 1 })
	change(func(k *api.Book) { k.Id = (k.Id+10)%12 + 1 })
	change(func(k *api.Book) { k.Id = math.MinInt })
	change(func(k *api.Book) { k.Plain++ })
	change(func(k *api.Book) { k.Plain = -1 })
	change(func(k *api.Book) { k.Entries = nil })
	change(func(k *api.Book) { k.Ranks = nil })
	change(func(k *api.Book) { k.Entries = k.Entries[:last] })
	change(func(k *api.Book) { k.Ranks = k.Ranks[:last] })
	change(func(k *api.Book) { k.Entries = append(k.Entries, last+1) })
	change(func(k *api.Book) { k.Ranks = append(k.Ranks, last+1) })
	change(func(k *api.Book) { k.Entries[0]++ })
	change(func(k *api.Book) { k.Entries[last] = -1 })
	change(func(k *api.Book) { k.Entries[last] = math.MaxInt })
	change(func(k *api.Book) { k.Ranks[0] = math.MinInt })
	change(func(k *api.Book) { k.Ranks[last]++ })
	change(func(k *api.Book) { // two ranks, changed in both lists
		a, b := k.Entries[last-1], k.Entries[last]
		k.Entries[last-1], k.Entries[last] = b, a
		k.Ranks[a], k.Ranks[b] = last, last-1
	})
	change(func(k *api.Book) {
		a, b := k.Entries[0], k.Entries[last]
		k.Entries[0], k.Entries[last] = b, a
		k.Ranks[a], k.Ranks[b] = last, 0
	})
	return append(out, api.Book{})
}

func TestOddBooks(t *testing.T) {
	for id := 1; id <= 12; id++ {
		k, _ := book.Get(id)
		for i, o := range odd(k) {
			if c, e := book.Code(o, -1); e != api.ErrBad || len(c) != 0 {
				t.Error(id, i, c, e)
			}
			if c, e := book.Code(o, 0); e != api.ErrBad || len(c) != 0 {
				t.Error(id, i, c, e)
			}
			for _, at := range []int{0, -1} {
				if n, next, e := book.Read(o, []byte{1, 1, 1}, at); e != api.ErrBad || n != 0 || next != 0 {
					t.Error(id, i, n, next, e)
				}
			}
		}
	}
}

func TestReadErrors(t *testing.T) {
	nine := make([]byte, 9)
	for i, c := range []struct {
		id int
		b  []byte
		at int
		e  api.Errno
	}{
		{12, nil, 0, api.ErrEnd},
		{12, nil, 1, api.ErrArg},
		{12, []byte{1}, 2, api.ErrArg},
		{12, []byte{1}, -1, api.ErrArg},
		{12, []byte{1}, math.MaxInt, api.ErrArg},
		{12, []byte{1}, math.MinInt, api.ErrArg},
		{12, []byte{1}, 1, api.ErrEnd},
		{12, make([]byte, 10), 0, api.ErrBad},
		{12, nine, 0, api.ErrEnd},
		{12, append(slices.Clone(nine), 1), 0, api.ErrEnd},
		{12, append(slices.Clone(nine), 2), 0, api.ErrBad},
		{12, append(append(slices.Clone(nine), 1), nine...), 0, api.ErrBad},
		{12, []byte{2}, 0, api.ErrBad},
		{12, []byte{0, 2}, 0, api.ErrBad},
		{12, []byte{0, 1, 2}, 0, api.ErrBad},
		{12, []byte{0, 0, 1, 2}, 0, api.ErrEnd}, // two digits are asked for at once
		{12, []byte{0, 0, 1, 2, 0}, 0, api.ErrBad},
		{8, []byte{1, 2}, 0, api.ErrEnd}, // so are plain bits
		{8, []byte{1, 2, 0}, 0, api.ErrBad},
		{8, []byte{0, 1, 2}, 0, api.ErrBad},
		{2, []byte{1}, 0, api.ErrEnd},
	} {
		k, _ := book.Get(c.id)
		if n, next, e := book.Read(k, c.b, c.at); n != 0 || next != 0 || e != c.e {
			t.Error(i, n, next, e)
		}
	}
}

// TestMemory holds P8.3.
func TestMemory(t *testing.T) {
	for id := 1; id <= 12; id++ {
		a, _ := book.Get(id)
		b, _ := book.Get(id)
		for i := range a.Entries {
			a.Entries[i] = -7
		}
		if slices.Contains(a.Ranks, -7) {
			t.Error(id, "shares")
		}
		for i := range a.Ranks {
			a.Ranks[i] = -7
		}
		entries, ranks := slices.Clone(b.Entries), slices.Clone(b.Ranks)
		bits := []byte{1, 0, 1, 1, 9}
		c, _ := book.Code(b, 0)
		clear(c)
		v, _ := book.Values(id, 1)
		book.Entry(id, v)
		clear(v)
		book.Read(b, bits[:4], 0)
		if again, _ := book.Get(id); !slices.Equal(b.Entries, entries) || !slices.Equal(b.Ranks, ranks) || !slices.Equal(again.Entries, entries) || !bytes.Equal(bits, []byte{1, 0, 1, 1, 9}) {
			t.Error(id)
		}
	}
}

// TestFollows holds what of P8.4 is not told above: no code begins another, greater sums have no shorter codes, and what is read has these bits as its code.
func TestFollows(t *testing.T) {
	for id := 1; id <= 12; id++ {
		k, _ := book.Get(id)
		var codes []string
		was := 0
		for _, n := range k.Entries {
			c, _ := book.Code(k, n)
			if len(c) < was {
				t.Error(id, n)
			}
			was = len(c)
			codes = append(codes, string(c))
		}
		sort.Strings(codes)
		for i := range codes[1:] {
			if strings.HasPrefix(codes[i+1], codes[i]) {
				t.Error(id, i)
			}
		}
		for word := 0; word < 1<<13; word++ {
			var b []byte
			for i := 12; i >= 0; i-- {
				b = append(b, byte(word>>i&1))
			}
			if n, next, e := book.Read(k, b, 0); e == api.OK {
				if c, _ := book.Code(k, n); !bytes.Equal(c, b[:next]) {
					t.Error(id, word)
				}
			}
		}
	}
}
