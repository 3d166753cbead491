package info_test

import (
	"bytes"
	"math"
	"slices"
	"testing"

	"reedpipe/api"
	"reedpipe/band"
	"reedpipe/info"
)

func long(seq, shape uint8, most int) api.Info {
	return api.Info{Seq: seq, Shape: shape, Max: most, Groups: []int{1}}
}

func shorts(shape uint8, most int, groups ...int) api.Info {
	return api.Info{Seq: api.Shorts, Shape: shape, Max: most, Groups: groups}
}

// groupings are all lists of numbers from 1 on that come to n.
func groupings(n int) [][]int {
	if n == 0 {
		return [][]int{nil}
	}
	var out [][]int
	for first := 1; first <= n; first++ {
		for _, behind := range groupings(n - first) {
			out = append(out, append([]int{first}, behind...))
		}
	}
	return out
}

// odd are windows that may not be at any rate.
func odd() []api.Info {
	most := math.MaxInt
	return []api.Info{
		{}, long(4, 0, 1), long(255, 0, 1), long(0, 2, 1), long(0, 255, 1), long(0, 0, -1), long(0, 0, 41), long(0, 0, most), long(0, 0, math.MinInt),
		{Max: 1}, {Max: 1, Groups: []int{2}}, {Max: 1, Groups: []int{0}}, {Max: 1, Groups: []int{1, 1}}, {Max: 1, Groups: []int{-1}}, {Max: 1, Groups: []int{0, 1}}, {Max: 1, Groups: []int{8}}, {Seq: 3, Groups: []int{1, 0}},
		shorts(0, 8, 8), shorts(0, -1, 8), shorts(2, 1, 8), shorts(0, 1), shorts(0, 1, 1), shorts(0, 1, 7), shorts(0, 1, 9), shorts(0, 1, 4, 3), shorts(0, 1, 4, 5), shorts(0, 1, 0, 8), shorts(0, 1, 8, 0), shorts(0, 1, -1, 9), shorts(0, 1, 9, -1), shorts(0, 1, 1, 1, 1, 1, 1, 1, 1, 1, 1),
		shorts(0, 1, most, most, 10), shorts(0, 1, math.MinInt, math.MinInt, 8), shorts(0, 1, 4, most, most, 6),
	}
}

func TestCheck(t *testing.T) {
	for rate := 0; rate <= 11; rate++ {
		bands, _ := band.Many(rate, false)
		few, _ := band.Many(rate, true)
		for _, i := range odd() {
			if e := info.Check(rate, i); e != api.ErrBad {
				t.Error(rate, i, e)
			}
		}
		for shape := uint8(0); shape < 2; shape++ {
			for _, seq := range []uint8{0, 1, 3} {
				for most, want := range map[int]api.Errno{0: api.OK, bands: api.OK, bands + 1: api.ErrBad, -1: api.ErrBad} {
					if e := info.Check(rate, long(seq, shape, most)); e != want {
						t.Error(rate, seq, shape, most, e)
					}
				}
			}
			for _, g := range groupings(8) {
				for most, want := range map[int]api.Errno{0: api.OK, few: api.OK, few + 1: api.ErrBad, -1: api.ErrBad} {
					if e := info.Check(rate, shorts(shape, most, g...)); e != want {
						t.Error(rate, shape, most, g, e)
					}
				}
			}
		}
	}
	for _, rate := range []int{-1, 12, math.MinInt, math.MaxInt} {
		for _, i := range []api.Info{long(0, 0, 1), {}} {
			if e := info.Check(rate, i); e != api.ErrArg {
				t.Error(rate, e)
			}
			if b, e := info.Put([]byte{1}, rate, i); e != api.ErrArg || len(b) != 0 {
				t.Error(rate, b, e)
			}
			if got, next, e := info.Get(make([]byte, 20), 0, rate); e != api.ErrArg || next != 0 || !info.Same(got, api.Info{}) {
				t.Error(rate, got, next, e)
			}
		}
	}
	if e := info.Check(0, shorts(0, 6, 8)); e != api.ErrBad {
		t.Error(e)
	}
}

func TestAfter(t *testing.T) {
	for was := 0; was < 256; was++ {
		many := 0
		for now := 0; now < 256; now++ {
			want := (was == 0 || was == 3) && (now == 0 || now == 1) || (was == 1 || was == 2) && (now == 2 || now == 3)
			if got := info.After(uint8(was), uint8(now)); got != want {
				t.Error(was, now, got)
			}
			if want {
				many++
			}
		}
		if was < 4 && many != 2 {
			t.Error(was, many)
		}
	}
}

func TestWindows(t *testing.T) {
	for _, i := range odd() {
		if n, e := info.Windows(i); n != 0 || e != api.ErrBad {
			t.Error(i, n, e)
		}
		for _, w := range []int{0, -1, 9} {
			if n, e := info.Group(i, w); n != 0 || e != api.ErrBad {
				t.Error(i, w, n, e)
			}
		}
	}
	for _, i := range []api.Info{long(0, 0, 40), long(1, 1, 0), long(3, 0, 7)} {
		if n, e := info.Windows(i); n != 1 || e != api.OK {
			t.Error(i, n, e)
		}
		if n, e := info.Group(i, 0); n != 0 || e != api.OK {
			t.Error(i, n, e)
		}
		for _, w := range []int{1, -1, math.MinInt, math.MaxInt} {
			if n, e := info.Group(i, w); n != 0 || e != api.ErrArg {
				t.Error(i, w, n, e)
			}
		}
	}
	for _, g := range groupings(8) {
		i := shorts(1, 7, g...)
		if n, e := info.Windows(i); n != 8 || e != api.OK {
			t.Error(i, n, e)
		}
		w := 0
		for group, many := range g {
			for ; many > 0; many-- {
				if n, e := info.Group(i, w); n != group || e != api.OK {
					t.Error(i, w, n, e)
				}
				w++
			}
		}
		for _, w := range []int{8, -1, math.MinInt, math.MaxInt} {
			if n, e := info.Group(i, w); n != 0 || e != api.ErrArg {
				t.Error(i, w, n, e)
			}
		}
	}
	if n, e := info.Group(shorts(0, 5, 3, 5), 3); n != 1 || e != api.OK {
		t.Error(n, e)
	}
}

// plain are the windows' bits as chapter 10 tells them.
func plain(i api.Info) []byte {
	out := []byte{0, i.Seq >> 1, i.Seq & 1, i.Shape}
	size := 6
	if i.Seq == api.Shorts {
		size = 4
	}
	for s := size - 1; s >= 0; s-- {
		out = append(out, byte(i.Max>>s&1))
	}
	if i.Seq != api.Shorts {
		return append(out, 0)
	}
	var same []byte
	for _, n := range i.Groups {
		same = append(append(same, 0), bytes.Repeat([]byte{1}, n-1)...)
	}
	return append(out, same[1:]...)
}

func all(rate int) []api.Info {
	var out []api.Info
	bands, _ := band.Many(rate, false)
	few, _ := band.Many(rate, true)
	for shape := uint8(0); shape < 2; shape++ {
		for _, seq := range []uint8{0, 1, 3} {
			for most := 0; most <= bands; most++ {
				out = append(out, long(seq, shape, most))
			}
		}
		for n, g := range groupings(8) {
			out = append(out, shorts(shape, n%(few+1), g...))
		}
	}
	return out
}

func TestBits(t *testing.T) {
	for i, c := range []struct {
		i    api.Info
		want []byte
	}{
		{long(0, 1, 3), []byte{0, 0, 0, 1, 0, 0, 0, 0, 1, 1, 0}},
		{shorts(0, 5, 3, 5), []byte{0, 1, 0, 0, 0, 1, 0, 1, 1, 1, 0, 1, 1, 1, 1}},
	} {
		if got, e := info.Put(nil, 0, c.i); !bytes.Equal(got, c.want) || e != api.OK {
			t.Error(i, got, e)
		}
	}
	for rate := 0; rate <= 11; rate++ {
		for _, i := range all(rate) {
			want := append([]byte{6, 1}, plain(i)...)
			got, e := info.Put([]byte{6, 1}, rate, i)
			if e != api.OK || !bytes.Equal(got, want) {
				t.Error(rate, i, got, e)
			}
			for _, behind := range [][]byte{nil, {1, 1}, {0, 5}} {
				back, next, e := info.Get(append(slices.Clone(want), behind...), 2, rate)
				if e != api.OK || next != len(want) || !info.Same(back, i) {
					t.Error(rate, i, back, next, e)
				}
			}
			for cut := 2; cut < len(want); cut++ {
				if back, next, e := info.Get(want[:cut], 2, rate); e != api.ErrEnd || next != 0 || !info.Same(back, api.Info{}) {
					t.Error(rate, i, cut, back, next, e)
				}
			}
			if rate == 0 {
				for place := 2; place < len(want); place++ {
					b := slices.Clone(want)
					b[place] = 2
					if _, _, e := info.Get(b, 2, rate); e != api.ErrBad {
						t.Error(i, place, e)
					}
				}
			}
		}
		for _, i := range odd() {
			if b, e := info.Put([]byte{1}, rate, i); e != api.ErrBad || len(b) != 0 {
				t.Error(rate, i, b, e)
			}
		}
	}
}

func TestGetErrors(t *testing.T) {
	for i, c := range []struct {
		b        []byte
		at, rate int
		e        api.Errno
	}{
		{nil, 0, 0, api.ErrEnd},
		{nil, 1, 0, api.ErrArg},
		{nil, -1, 0, api.ErrArg},
		{nil, math.MaxInt, 0, api.ErrArg},
		{[]byte{1, 0, 0, 1, 0, 0, 0, 0, 1, 1, 0}, 0, 0, api.ErrBad},
		{[]byte{0, 0, 0, 1, 0, 0, 0, 0, 1, 1, 1}, 0, 0, api.ErrBad},
		{[]byte{0, 0, 0, 1, 0, 1, 0, 1, 1, 1, 0}, 0, 0, api.ErrBad},                // 23 bands at rate 0
		{[]byte{0, 0, 0, 1, 1, 0, 1, 0, 0, 1, 0}, 0, 11, api.ErrBad},               // 41
		{[]byte{0, 1, 0, 0, 0, 1, 1, 0, 1, 1, 0, 1, 1, 1, 1}, 0, 0, api.ErrBad},    // 6
		{[]byte{1, 1, 0, 0, 0, 1, 0, 1, 1, 1, 0, 1, 1, 1, 1}, 0, 0, api.ErrBad},    //
		{[]byte{1, 0, 0, 1, 0, 0, 0, 0, 1, 1}, 0, 0, api.ErrEnd},                   // the bits are got first
		{[]byte{1, 1, 0, 0, 0, 1, 0, 1, 1, 1, 0, 1, 1, 1}, 0, 0, api.ErrEnd},       //
		{[]byte{0, 1, 0, 0, 1, 1, 1, 1, 1, 1, 0, 1, 1, 1, 2}, 0, 0, api.ErrBad},    //
		{[]byte{0, 2, 0, 0, 0, 0, 0, 0}, 0, 0, api.ErrBad},                         //
		{[]byte{0, 0, 0, 1, 2, 0, 0}, 0, 0, api.ErrEnd},                            // six bits are asked for at once
		{[]byte{0, 1, 0, 0, 1, 0, 0, 0, 1, 1, 1, 1, 1, 1, 1}, 0, 11, api.ErrBad},   // 8 short bands
		{[]byte{0, 1, 0, 0, 1, 1, 1, 1, 1, 1, 1, 1, 1, 1, 1, 1}, 1, 0, api.ErrBad}, //
	} {
		if got, next, e := info.Get(c.b, c.at, c.rate); e != c.e || next != 0 || !info.Same(got, api.Info{}) {
			t.Error(i, got, next, e)
		}
	}
	if got, next, e := info.Get([]byte{0, 0, 0, 1, 0, 1, 0, 1, 1, 0, 0}, 0, 0); e != api.OK || next != 11 || !info.Same(got, long(0, 1, 22)) {
		t.Error(got, next, e)
	}
}

func TestSame(t *testing.T) {
	a := shorts(1, 3, 2, 6)
	if !info.Same(a, shorts(1, 3, 2, 6)) || !info.Same(api.Info{}, api.Info{Groups: []int{}}) {
		t.Error("not the same")
	}
	for i, b := range []api.Info{shorts(0, 3, 2, 6), shorts(1, 4, 2, 6), shorts(1, 3, 2, 5), shorts(1, 3, 2), shorts(1, 3, 2, 6, 0), shorts(1, 3), {Seq: 3, Shape: 1, Max: 3, Groups: []int{2, 6}}} {
		if info.Same(a, b) || info.Same(b, a) {
			t.Error(i)
		}
	}
	for _, i := range append(odd(), a) {
		was := slices.Clone(i.Groups)
		b := info.Twin(i)
		if !info.Same(i, b) {
			t.Error(i, b)
		}
		for g := range b.Groups {
			b.Groups[g] = 99
		}
		if !slices.Equal(i.Groups, was) {
			t.Error(i)
		}
	}
}

// TestMemory holds P10.4.
func TestMemory(t *testing.T) {
	room := bytes.Repeat([]byte{1, 9}, 30)
	was := bytes.Clone(room)
	i := shorts(0, 5, 3, 5)
	got, _ := info.Put(room[:3], 0, i)
	clear(got)
	b, _ := info.Put(nil, 0, i)
	bits := bytes.Clone(b)
	back, _, _ := info.Get(b, 0, 0)
	back.Groups[0] = 77
	info.Check(0, i)
	info.Windows(i)
	info.Group(i, 5)
	if !bytes.Equal(room, was) || !bytes.Equal(b, bits) || !slices.Equal(i.Groups, []int{3, 5}) {
		t.Error(room, i)
	}
}

// TestGrammar holds P10.5: what is got is put as these bits.
func TestGrammar(t *testing.T) {
	for word := 0; word < 1<<15; word++ {
		b := make([]byte, 15)
		for i := range b {
			b[i] = byte(word >> i & 1)
		}
		i, next, e := info.Get(b, 0, 6)
		if e != api.OK {
			continue
		}
		again, e := info.Put(nil, 6, i)
		if e != api.OK || !bytes.Equal(again, b[:next]) || info.Check(6, i) != api.OK {
			t.Error(word, i, e)
		}
	}
}
