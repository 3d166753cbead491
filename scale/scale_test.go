package scale_test

import (
	"bytes"
	"math"
	"slices"
	"testing"

	"reedpipe/api"
	"reedpipe/huff"
	"reedpipe/scale"
)

// list are sections, told by books and lengths in turn.
func list(n ...int) []api.Section {
	var out []api.Section
	for i := 0; i < len(n); i += 2 {
		out = append(out, api.Section{Book: n[i], Len: n[i+1]})
	}
	return out
}

func lists(l ...[]api.Section) [][]api.Section { return l }

func table(l ...[]int) [][]int { return l }

func same(a, b [][]int) bool {
	return slices.EqualFunc(a, b, func(a, b []int) bool { return slices.Equal(a, b) })
}

type dice uint32

func (d *dice) roll(n int) int {
	*d = *d*1664525 + 1013904223
	return int(*d>>8) % n
}

// near is a number from 0 to most that is at most 60 from another one; often just 60.
func (d *dice) near(was, most int) int {
	far := d.roll(121) - 60
	if d.roll(3) == 0 {
		far = 120*d.roll(2) - 60
	}
	return max(0, min(most, was+far))
}

// steps are some that may be, and their bits as chapter 20 tells them.
func (d *dice) steps(gain int, l [][]api.Section) (steps [][]int, b []byte) {
	step, noise := gain, -1
	for _, sections := range l {
		var out []int
		for _, s := range sections {
			for range s.Len {
				switch {
				case s.Book == 0:
					out = append(out, 0)
				case s.Book == 13 && noise < 0:
					noise = d.roll(512)
					for i := 8; i >= 0; i-- {
						b = append(b, byte(noise>>i&1))
					}
					out = append(out, noise)
				case s.Book == 13:
					next := d.near(noise, 511)
					b, _ = huff.Step(b, next-noise)
					noise = next
					out = append(out, noise)
				default:
					next := d.near(step, 255)
					b, _ = huff.Step(b, next-step)
					step = next
					out = append(out, step)
				}
			}
		}
		steps = append(steps, out)
	}
	return steps, b
}

func (d *dice) sections() [][]api.Section {
	var out [][]api.Section
	for range d.roll(9) {
		var l []api.Section
		for left := 40; left > 0 && d.roll(6) > 0; {
			s := api.Section{Book: d.roll(13), Len: 1 + d.roll(left)}
			if s.Book == 12 {
				s.Book = 13
			}
			l, left = append(l, s), left-s.Len
		}
		out = append(out, l)
	}
	return out
}

func TestBits(t *testing.T) {
	d := dice(1)
	for n := range 400 {
		gain, l := d.roll(256), d.sections()
		steps, b := d.steps(gain, l)
		want := append([]byte{7, 1}, b...)
		if e := scale.Check(gain, l, steps); e != api.OK {
			t.Fatal(n, e)
		}
		got, e := scale.Put([]byte{7, 1}, gain, l, steps)
		if e != api.OK || !bytes.Equal(got, want) {
			t.Fatal(n, e)
		}
		back, next, e := scale.Get(append(slices.Clone(want), 1, 0, 9), 2, gain, l)
		if e != api.OK || next != len(want) || !same(back, steps) {
			t.Fatal(n, next, e)
		}
		for cut := 2; cut < len(want); cut += 1 + d.roll(len(want)) {
			if back, next, e := scale.Get(want[:cut], 2, gain, l); e != api.ErrEnd || next != 0 || len(back) != 0 {
				t.Fatal(n, cut, next, e)
			}
		}
		// P20.3: sections cut in two change nothing.
		for g, sections := range l {
			var cut []api.Section
			for _, s := range sections {
				if s.Len > 1 {
					cut = append(cut, api.Section{Book: s.Book, Len: 1})
					s.Len--
				}
				cut = append(cut, s)
			}
			l[g] = cut
		}
		if got, e := scale.Put(nil, gain, l, steps); e != api.OK || !bytes.Equal(got, b) {
			t.Fatal(n, e)
		}
	}
}

func TestExamples(t *testing.T) {
	if b, e := scale.Put(nil, 100, lists(list(1, 2)), table([]int{100, 101})); e != api.OK || !bytes.Equal(b, []byte{1, 0, 1, 1}) {
		t.Error(b, e)
	}
	if b, e := scale.Put(nil, 0, lists(list(13, 2)), table([]int{5, 4})); e != api.OK || !bytes.Equal(b, []byte{0, 0, 0, 0, 0, 0, 1, 0, 1, 0, 1, 0}) {
		t.Error(b, e)
	}
	if s, next, e := scale.Get([]byte{0, 1, 0}, 0, 0, lists(list(1, 1))); e != api.ErrBad || next != 0 || len(s) != 0 {
		t.Error(s, next, e)
	}
	if s, next, e := scale.Get(nil, 0, 0, nil); e != api.OK || next != 0 || len(s) != 0 {
		t.Error(s, next, e)
	}
}

// refused holds all three to ErrBad, whatever else is wrong.
func refused(t *testing.T, n, gain int, l [][]api.Section, steps [][]int) {
	t.Helper()
	if e := scale.Check(gain, l, steps); e != api.ErrBad {
		t.Error(n, e)
	}
	if b, e := scale.Put([]byte{1}, gain, l, steps); e != api.ErrBad || len(b) != 0 {
		t.Error(n, b, e)
	}
}

func TestMayNot(t *testing.T) {
	far := []int{math.MinInt, math.MaxInt}
	zeros := func(n int) []int { return make([]int, n) }
	for n, c := range []struct {
		gain  int
		l     [][]api.Section
		steps [][]int
	}{
		{-1, nil, nil}, {256, nil, nil}, {far[0], nil, nil}, {far[1], nil, nil},
		{0, make([][]api.Section, 9), make([][]int, 9)},
		{0, lists(list(12, 1)), table(zeros(1))},
		{0, lists(list(14, 1)), table(zeros(1))},
		{0, lists(list(-1, 1)), table(zeros(1))},
		{0, lists(list(0, 0)), table(zeros(0))},
		{0, lists(list(0, -1)), table(zeros(0))},
		{0, lists(list(0, 2, 0, -1)), table(zeros(1))},
		{0, lists(list(0, 41)), table(zeros(41))},
		{0, lists(list(0, 20, 1, 21)), table(zeros(41))},
		{0, lists(nil, list(0, 39, 13, 2)), table(nil, zeros(41))},
		{0, lists(list(0, far[1], 0, far[1], 0, 2)), table(zeros(0))},
		{0, lists(list(0, far[0])), table(zeros(0))},
	} {
		refused(t, n, c.gain, c.l, c.steps)
		for _, at := range []int{0, -1, 99} {
			if s, next, e := scale.Get(make([]byte, 9), at, c.gain, c.l); e != api.ErrBad || next != 0 || len(s) != 0 {
				t.Error(n, s, next, e)
			}
		}
	}
	if e := scale.Check(255, make([][]api.Section, 8), make([][]int, 8)); e != api.OK {
		t.Error(e)
	}
	if e := scale.Check(0, lists(list(0, 20, 1, 20)), table(zeros(40))); e != api.OK {
		t.Error(e)
	}
}

func TestSteps(t *testing.T) {
	l := lists(list(1, 1, 0, 1, 13, 1), list(13, 1, 11, 2))
	if e := scale.Check(100, l, table([]int{160, 0, 511}, []int{451, 100, 40})); e != api.OK {
		t.Error(e)
	}
	for n, steps := range [][][]int{
		nil,
		table([]int{160, 0, 511}),
		table([]int{160, 0, 511}, []int{451, 100, 40}, nil),
		table([]int{160, 0}, []int{451, 100, 40}),
		table([]int{160, 0, 511, 0}, []int{451, 100, 40}),
		table([]int{160, 0, 511}, []int{451, 100}),
		table([]int{161, 0, 511}, []int{451, 101, 41}),
		table([]int{39, 0, 511}, []int{451, 39, 39}),
		table([]int{160, 1, 511}, []int{451, 100, 40}),
		table([]int{160, -1, 511}, []int{451, 100, 40}),
		table([]int{160, 0, 512}, []int{480, 100, 40}),
		table([]int{160, 0, -1}, []int{0, 100, 40}),
		table([]int{160, 0, 511}, []int{450, 100, 40}),
		table([]int{160, 0, 390}, []int{451, 100, 40}),
		table([]int{160, 0, 511}, []int{512, 100, 40}),
		table([]int{160, 0, 511}, []int{451, 99, 40}),
		table([]int{160, 0, 511}, []int{451, 221, 221}),
		table([]int{160, 0, 511}, []int{451, 100, 39}),
		table([]int{math.MinInt, 0, 511}, []int{451, 100, 40}),
		table([]int{160, 0, math.MaxInt}, []int{451, 100, 40}),
		table([]int{160, 0, 511}, []int{math.MinInt, 100, 40}),
		table([]int{160, 0, 511}, []int{451, math.MaxInt, 40}),
		table([]int{160, math.MinInt, 511}, []int{451, 100, 40}),
	} {
		refused(t, n, 100, l, steps)
	}
	refused(t, 0, 255, lists(list(1, 1)), table([]int{256}))
	refused(t, 0, 0, lists(list(1, 1)), table([]int{-1}))
}

func TestGetErrors(t *testing.T) {
	one, noise := lists(list(1, 1)), lists(list(13, 2))
	step := func(d ...int) []byte {
		var b []byte
		for _, v := range d {
			b, _ = huff.Step(b, v)
		}
		return b
	}
	for n, c := range []struct {
		b        []byte
		at, gain int
		l        [][]api.Section
		e        api.Errno
	}{
		{nil, 1, 0, one, api.ErrArg},
		{nil, -1, 0, one, api.ErrArg},
		{nil, 1, 0, nil, api.ErrArg},
		{nil, math.MaxInt, 0, nil, api.ErrArg},
		{nil, math.MinInt, 0, lists(list(0, 3)), api.ErrArg},
		{nil, 0, 0, one, api.ErrEnd},
		{make([]byte, 10), 0, 0, one, api.ErrBad},
		{[]byte{2}, 0, 0, one, api.ErrBad},
		{step(60), 0, 196, one, api.ErrBad},
		{step(-60), 0, 59, one, api.ErrBad},
		{step(-1), 0, 0, lists(list(1, 2)), api.ErrBad}, // as soon as it may not be
		{step(0), 0, 0, lists(list(1, 2)), api.ErrEnd},
		{make([]byte, 8), 0, 0, noise, api.ErrEnd},
		{[]byte{0, 2, 0, 0, 0, 0, 0, 0}, 0, 0, noise, api.ErrEnd},
		{[]byte{0, 2, 0, 0, 0, 0, 0, 0, 0}, 0, 0, noise, api.ErrBad},
		{make([]byte, 9), 0, 0, noise, api.ErrEnd},
		{append(make([]byte, 9), step(-1)...), 0, 0, noise, api.ErrBad},
		{append(bytes.Repeat([]byte{1}, 9), step(1)...), 0, 0, noise, api.ErrBad},
	} {
		if s, next, e := scale.Get(c.b, c.at, c.gain, c.l); e != c.e || next != 0 || len(s) != 0 {
			t.Error(n, s, next, e)
		}
	}
	if s, next, e := scale.Get(append(step(60), step(-60)...), 0, 195, lists(list(4, 1), nil, list(9, 1))); e != api.OK || next != len(step(60, -60)) || !same(s, table([]int{255}, nil, []int{195})) {
		t.Error(s, next, e)
	}
}

// TestMemory holds P20.2.
func TestMemory(t *testing.T) {
	room := bytes.Repeat([]byte{1, 0}, 30)
	was := bytes.Clone(room)
	l, steps := lists(list(1, 2), list(13, 1)), table([]int{9, 8}, []int{300})
	got, _ := scale.Put(room[:3], 9, l, steps)
	clear(got)
	scale.Check(9, l, steps)
	b, _ := scale.Put(nil, 9, l, steps)
	a, _, _ := scale.Get(b, 0, 9, l)
	_ = append(a[0], 77)
	if !bytes.Equal(room, was) || !same(a, steps) || !same(steps, table([]int{9, 8}, []int{300})) || l[0][0].Len != 2 {
		t.Error("written to")
	}
}

// TestGrammar holds P20.3: what is got is put as these bits.
func TestGrammar(t *testing.T) {
	l := lists(list(1, 1, 13, 1), list(0, 1, 13, 1, 11, 1))
	d := dice(4)
	for range 5000 {
		b := make([]byte, 60)
		for i := range b {
			b[i] = byte(d.roll(2))
		}
		steps, next, e := scale.Get(b, 0, 128, l)
		if e != api.OK {
			continue
		}
		if again, e := scale.Put(nil, 128, l, steps); e != api.OK || !bytes.Equal(again, b[:next]) {
			t.Fatal(steps, e)
		}
	}
}
