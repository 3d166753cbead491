package ics_test

import (
	"bytes"
	"math"
	"slices"
	"testing"

	"reedpipe/api"
	"reedpipe/band"
	"reedpipe/bits"
	"reedpipe/book"
	"reedpipe/huff"
	"reedpipe/ics"
	"reedpipe/info"
	"reedpipe/lane"
	"reedpipe/sample"
	"reedpipe/scale"
	"reedpipe/sect"
	"reedpipe/tnsbits"
)

// plain are a channel's bits as chapter 22 tells them; lineBits are the last of them.
func plain(rate int, c api.Chan, common bool) (all, lineBits []byte) {
	b, _ := bits.Put(nil, c.Gain, 8)
	if !common {
		b, _ = info.Put(b, rate, c.Info)
	}
	b, _ = sect.Put(b, c.Info, c.Sections)
	b, _ = scale.Put(b, c.Gain, c.Sections, c.Steps)
	b = append(b, 0)
	any := false
	for _, l := range c.Tns {
		any = any || len(l) > 0
	}
	if any {
		b, _ = tnsbits.Put(append(b, 1), c.Info, c.Tns)
	} else {
		b = append(b, 0)
	}
	b = append(b, 0)
	from := len(b)
	o, _ := band.Offsets(rate, c.Info.Seq == api.Shorts)
	first := 0
	for g, many := range c.Info.Groups {
		for n := 0; n < c.Info.Max; n++ {
			id, _ := lane.Book(c.Sections, g, n)
			if id == 0 || id > 11 {
				continue
			}
			k, _ := book.Get(id)
			size := 2
			if id <= 4 {
				size = 4
			}
			for w := first; w < first+many; w++ {
				l := c.Lines[32*w+o[n] : 32*w+o[n+1]]
				for at := 0; at < len(l); at += size {
					b, _ = huff.Put(b, k, l[at:at+size])
				}
			}
		}
		first += many
	}
	return b, b[from:]
}

func TestBits(t *testing.T) {
	d := sample.Dice(5)
	for n := range 500 {
		rate, common := n%12, n%3 == 0
		i := d.Windows(rate)
		c := d.Record(rate, i)
		want, _ := plain(rate, c, common)
		want = append([]byte{7, 1}, want...)
		got, e := ics.Put([]byte{7, 1}, rate, c, common)
		if e != api.OK || !bytes.Equal(got, want) {
			t.Fatal(n, e)
		}
		given := api.Info{Seq: 9, Max: -4}
		if common {
			given = i
		}
		back, next, e := ics.Get(append(slices.Clone(want), 1, 0, 9), 2, rate, common, given)
		if e != api.OK || next != len(want) || !lane.Same(back, c) {
			t.Fatal(n, next, e)
		}
		if e := lane.Check(rate, back); e != api.OK {
			t.Fatal(n, e)
		}
		for cut := 2; cut < len(want); cut += 1 + d.Roll(len(want)) {
			if back, next, e := ics.Get(want[:cut], 2, rate, common, given); e != api.ErrEnd || next != 0 || !lane.Same(back, api.Chan{}) {
				t.Fatal(n, cut, next, e)
			}
		}
	}
}

func zero(most int) api.Chan {
	c, _ := lane.Zero(0, api.Info{Max: most, Groups: []int{1}})
	return c
}

func TestExamples(t *testing.T) {
	if b, e := ics.Put(nil, 0, zero(0), true); e != api.OK || !bytes.Equal(b, make([]byte, 11)) {
		t.Error(b, e)
	}
	if b, e := ics.Put(nil, 0, zero(0), false); e != api.OK || len(b) != 22 {
		t.Error(b, e)
	}
	i := zero(0).Info
	if c, next, e := ics.Get(make([]byte, 10), 0, 0, true, i); e != api.ErrEnd || next != 0 || !lane.Same(c, api.Chan{}) {
		t.Error(c, next, e)
	}
	b := make([]byte, 11)
	b[8] = 1
	if c, next, e := ics.Get(b, 0, 0, true, i); e != api.ErrBad || next != 0 || !lane.Same(c, api.Chan{}) {
		t.Error(c, next, e)
	}
}

func TestPutRefuses(t *testing.T) {
	for _, common := range []bool{false, true} {
		for _, rate := range []int{-1, 12, math.MinInt, math.MaxInt} {
			for _, c := range []api.Chan{zero(0), {}} {
				if b, e := ics.Put([]byte{1}, rate, c, common); e != api.ErrArg || len(b) != 0 {
					t.Error(rate, b, e)
				}
			}
		}
		for n, change := range []func(c *api.Chan){
			func(c *api.Chan) { c.Gain = 256 },
			func(c *api.Chan) { c.Info.Max = 2 },
			func(c *api.Chan) { c.Sections = nil },
			func(c *api.Chan) { c.Steps[0][0] = 1 },
			func(c *api.Chan) { c.Tns = nil },
			func(c *api.Chan) { c.Lines[0] = 1 },
			func(c *api.Chan) { c.Lines[255] = 1 },
			func(c *api.Chan) { *c = api.Chan{} },
		} {
			c := zero(3)
			change(&c)
			if b, e := ics.Put([]byte{1}, 0, c, common); e != api.ErrBad || len(b) != 0 {
				t.Error(n, b, e)
			}
		}
	}
}

func digits(n, size int) []byte {
	b, _ := bits.Put(nil, n, size)
	return b
}

func TestGetErrors(t *testing.T) {
	i := api.Info{Max: 1, Groups: []int{1}}
	join := func(l ...[]byte) []byte { return slices.Concat(l...) }
	gain, one := digits(100, 8), join(digits(1, 4), digits(1, 5))
	step, _ := huff.Step(nil, 0)
	low, _ := huff.Step(nil, -60)
	head := join(gain, one, step)
	sixteen := join(digits(100, 8), digits(11, 4), digits(1, 5), step, digits(0, 3))
	for n, c := range []struct {
		b        []byte
		at, rate int
		common   bool
		i        api.Info
		e        api.Errno
	}{
		{nil, 0, -1, true, api.Info{}, api.ErrArg},
		{nil, 0, 12, false, api.Info{}, api.ErrArg},
		{nil, 1, 0, true, api.Info{}, api.ErrArg},
		{nil, -1, 0, true, i, api.ErrArg},
		{nil, math.MaxInt, 0, false, i, api.ErrArg},
		{nil, math.MinInt, 0, false, i, api.ErrArg},
		{nil, 0, 0, true, api.Info{}, api.ErrBad},
		{nil, 0, 0, true, api.Info{Max: 23, Groups: []int{1}}, api.ErrBad},
		{nil, 0, 0, false, api.Info{}, api.ErrEnd},
		{nil, 0, 0, true, i, api.ErrEnd},
		{[]byte{2, 0, 0, 0, 0, 0, 0, 0}, 0, 0, true, i, api.ErrBad},
		{[]byte{2, 0, 0, 0, 0, 0, 0}, 0, 0, true, i, api.ErrEnd},
		{join(gain, []byte{1}, make([]byte, 10)), 0, 0, false, i, api.ErrBad}, // windows may not be
		{join(gain, []byte{1}, make([]byte, 9)), 0, 0, false, i, api.ErrEnd},
		{join(gain, digits(12, 4)), 0, 0, true, i, api.ErrBad},
		{join(gain, digits(1, 4), digits(2, 5)), 0, 0, true, i, api.ErrBad},
		{join(digits(59, 8), one, low), 0, 0, true, i, api.ErrBad},
		{join(gain, one, make([]byte, 10)), 0, 0, true, i, api.ErrBad},
		{join(head, digits(0, 3), []byte{0, 0, 1}), 0, 0, true, i, api.ErrEnd}, // a code of book 1 is cut off
		{join(head, digits(4, 3), []byte{1}), 0, 0, true, i, api.ErrBad},       // the first bit 0 is 1
		{join(head, digits(1, 3), []byte{1}), 0, 0, true, i, api.ErrBad},       // the last one
		{join(head, digits(4, 3)), 0, 0, true, i, api.ErrEnd},                  // in the end only
		{join(head, digits(1, 3)), 0, 0, true, i, api.ErrEnd},
		{join(head, []byte{0, 2, 0, 1}), 0, 0, true, i, api.ErrBad},
		{join(head, digits(1, 2), digits(0, 2), []byte{0, 1}), 0, 0, true, i, api.ErrBad}, // filters are told, and there are none
		{join(head, digits(1, 2), digits(0, 2), []byte{0}), 0, 0, true, i, api.ErrEnd},
		{join(head, digits(1, 2), digits(1, 2), []byte{0}, digits(1, 6), digits(13, 5)), 0, 0, true, i, api.ErrBad},
		{join(head, digits(0, 3), make([]byte, 10)), 0, 0, true, i, api.ErrBad},
		{join(sixteen, []byte{1, 0, 0, 0, 0, 0}), 0, 0, true, i, api.ErrEnd},
	} {
		if got, next, e := ics.Get(c.b, c.at, c.rate, c.common, c.i); e != c.e || next != 0 || !lane.Same(got, api.Chan{}) {
			t.Error(n, next, e)
		}
	}
	// One window with filters of Order 0 is enough, and four noughts by book 1 are one bit.
	b := join(head, digits(1, 2), digits(1, 2), []byte{0}, digits(1, 6), digits(0, 5), []byte{0, 1})
	want := api.Chan{Gain: 100, Info: i, Sections: [][]api.Section{{{Book: 1, Len: 1}}}, Steps: [][]int{{100}}, Tns: [][]api.Filter{{{Len: 1}}}, Lines: make([]int, 256)}
	if got, next, e := ics.Get(b, 0, 0, true, i); e != api.OK || next != len(b) || !lane.Same(got, want) {
		t.Error(got, next, e)
	}
}

// TestMemory holds P22.2.
func TestMemory(t *testing.T) {
	d := sample.Dice(8)
	i := api.Info{Seq: 2, Max: 3, Groups: []int{3, 5}}
	c := d.Record(2, i)
	was := lane.Twin(c)
	room := bytes.Repeat([]byte{1, 0}, 3000)
	full := bytes.Clone(room)
	got, _ := ics.Put(room[:3], 2, c, true)
	clear(got)
	b, _ := ics.Put(nil, 2, c, true)
	sent := bytes.Clone(b)
	back, _, _ := ics.Get(b, 0, 2, true, i)
	back.Info.Groups[0] = 99
	if !bytes.Equal(room, full) || !bytes.Equal(b, sent) || !lane.Same(c, was) || i.Groups[0] != 3 {
		t.Error("written to")
	}
}

// TestGrammar holds P22.3: what is got is put as these bits.
func TestGrammar(t *testing.T) {
	d := sample.Dice(6)
	many := 0
	for n := range 20000 {
		rate := n % 12
		i := d.Windows(rate)
		i.Max = min(i.Max, 2)
		b := make([]byte, 700)
		for at := range b {
			b[at] = byte(d.Roll(2))
		}
		if n%2 == 0 {
			// Of a book that may be, and a length that fits, more bits are right.
			copy(b[8:], digits(d.Roll(12), 4))
			copy(b[12:], digits(i.Max, 5))
		}
		c, next, e := ics.Get(b, 0, rate, true, i)
		if e != api.OK {
			continue
		}
		many++
		if again, e := ics.Put(nil, rate, c, true); e != api.OK || !bytes.Equal(again, b[:next]) {
			t.Fatal(n, e)
		}
	}
	if many < 100 {
		t.Error("too few bits are read", many)
	}
}

// TestCommon holds that common bits are those of a channel's own without its windows'.
func TestCommon(t *testing.T) {
	d := sample.Dice(3)
	for n := range 60 {
		c := d.Record(n%12, d.Windows(n%12))
		own, _ := ics.Put(nil, n%12, c, false)
		common, _ := ics.Put(nil, n%12, c, true)
		windows, _ := info.Put(nil, n%12, c.Info)
		if !bytes.Equal(own, slices.Concat(own[:8], windows, common[8:])) || !bytes.Equal(common[:8], own[:8]) {
			t.Error(n)
		}
	}
}
