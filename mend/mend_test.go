package mend_test

import (
	"math"
	"testing"

	"reedpipe/api"
	"reedpipe/band"
	"reedpipe/info"
	"reedpipe/lane"
	"reedpipe/mend"
	"reedpipe/raw"
	"reedpipe/sample"
)

// goesOn tells whether a frame may be, and follows.
func goesOn(c api.Config, was []uint8, f api.Frame) bool {
	if raw.Check(c, f) != api.OK {
		return false
	}
	for n, ch := range f.Chans {
		if !info.After(was[n], ch.Info.Seq) {
			return false
		}
	}
	return true
}

// plain is a channel's plain record as chapter 24 tells it.
func plain(rate int, was, shape uint8) api.Chan {
	i := api.Info{Groups: []int{1}}
	if was == 1 || was == 2 {
		i.Seq = 3
	}
	if shape < 2 {
		i.Shape = shape
	}
	c, _ := lane.Zero(rate, i)
	return c
}

// holds asks for one frame, and that it goes on, and is mended to itself.
func holds(t *testing.T, name string, c api.Config, was []uint8, f, want api.Frame) {
	t.Helper()
	got, e := mend.Mend(c, was, f)
	if e != api.OK || !raw.Same(got, want) {
		t.Error(name, got, e)
	}
	if !goesOn(c, was, got) {
		t.Error(name, "does not go on")
	}
	if again, e := mend.Mend(c, was, got); e != api.OK || !raw.Same(again, got) {
		t.Error(name, "is mended again")
	}
}

func mono() api.Config   { return api.Config{Rate: 4, Chans: 1} }
func stereo() api.Config { return api.Config{Rate: 4, Chans: 2} }

func zero(seq, shape uint8, most int) api.Chan {
	i := api.Info{Seq: seq, Shape: shape, Max: most, Groups: []int{1}}
	if seq == api.Shorts {
		i.Groups = []int{3, 5}
	}
	c, _ := lane.Zero(4, i)
	return c
}

func chans(l ...api.Chan) []api.Chan { return l }

func TestRefuses(t *testing.T) {
	for _, c := range []api.Config{{}, {Chans: 3}, {Chans: -1}, {Rate: -1, Chans: 1}, {Rate: 12, Chans: 2}, {Rate: math.MinInt, Chans: 1}} {
		for _, was := range [][]uint8{nil, {0}, {9, 9}} {
			if f, e := mend.Mend(c, was, api.Frame{Chans: chans(zero(0, 0, 0))}); e != api.ErrArg || !raw.Same(f, api.Frame{}) {
				t.Error(c, was, e)
			}
		}
	}
	for chans := 1; chans <= 2; chans++ {
		c := api.Config{Chans: chans}
		for _, was := range [][]uint8{nil, {}, {4}, {0, 0}, {9, 0}, {9, 9, 9}} {
			want := api.ErrMany
			if len(was) == chans {
				want = api.OK
				for _, v := range was {
					if v > 3 {
						want = api.ErrArg
					}
				}
			}
			if f, e := mend.Mend(c, was, api.Frame{}); e != want || e != api.OK && !raw.Same(f, api.Frame{}) {
				t.Error(c, was, e)
			}
		}
		for _, v := range []uint8{4, 255} {
			was := make([]uint8, chans)
			was[chans-1] = v
			if f, e := mend.Mend(c, was, api.Frame{}); e != api.ErrArg || !raw.Same(f, api.Frame{}) {
				t.Error(c, was, e)
			}
		}
	}
}

// TestChannels holds the first two steps.
func TestChannels(t *testing.T) {
	odd := zero(0, 1, 3)
	odd.Lines[0] = 1
	shaped := api.Chan{Info: api.Info{Shape: 2}}
	for was := uint8(0); was < 4; was++ {
		l := []uint8{was}
		holds(t, "no channel", mono(), l, api.Frame{}, api.Frame{Chans: chans(plain(4, was, 0))})
		holds(t, "odd", mono(), l, api.Frame{Chans: chans(odd)}, api.Frame{Chans: chans(plain(4, was, 1))})
		holds(t, "odd shape", mono(), l, api.Frame{Chans: chans(shaped)}, api.Frame{Chans: chans(plain(4, was, 0))})
		holds(t, "odd shape", mono(), l, api.Frame{Chans: chans(api.Chan{Info: api.Info{Seq: 7, Shape: 255, Max: -1}})}, api.Frame{Chans: chans(plain(4, was, 0))})
		for seq := uint8(0); seq < 4; seq++ {
			for shape := uint8(0); shape < 2; shape++ {
				c := zero(seq, shape, 2)
				want := plain(4, was, shape)
				if info.After(was, seq) {
					want = c
				}
				holds(t, "follows", mono(), l, api.Frame{Chans: chans(c)}, api.Frame{Chans: chans(want)})
				holds(t, "two of one", mono(), l, api.Frame{Chans: chans(c, odd)}, api.Frame{Chans: chans(want)})
				holds(t, "three of one", mono(), l, api.Frame{Chans: chans(c, c, c), Common: true, Mask: 2}, api.Frame{Chans: chans(want)})
				holds(t, "one of two", stereo(), []uint8{was, 1}, api.Frame{Chans: chans(c)}, api.Frame{Chans: chans(want, plain(4, 1, 0))})
				holds(t, "second", stereo(), []uint8{3, was}, api.Frame{Chans: chans(odd, c)}, api.Frame{Chans: chans(plain(4, 3, 1), want)})
				holds(t, "three of two", stereo(), []uint8{was, was}, api.Frame{Chans: chans(c, c, odd)}, api.Frame{Chans: chans(want, want)})
			}
		}
	}
}

// TestShared holds the third step.
func TestShared(t *testing.T) {
	was := []uint8{0, 0}
	a, b := zero(0, 0, 2), zero(0, 0, 3)
	s := zero(2, 0, 2)
	rows := func(l ...[]bool) [][]bool { return l }
	row := []bool{true, false}
	two := chans(a, a)
	bare := api.Frame{Chans: two}
	common := api.Frame{Chans: two, Common: true}
	side := api.Frame{Chans: two, Common: true, Mask: 2}
	some := api.Frame{Chans: two, Common: true, Mask: 1, Bands: rows(row)}
	for n, c := range []struct{ f, want api.Frame }{
		{common, common}, {side, side}, {some, some}, {bare, bare},
		{api.Frame{Chans: chans(a, b), Common: true, Mask: 2}, api.Frame{Chans: chans(a, b)}},
		{api.Frame{Chans: chans(a, b), Common: true, Mask: 1, Bands: rows(row)}, api.Frame{Chans: chans(a, b)}},
		{api.Frame{Chans: two, Mask: 2}, bare},
		{api.Frame{Chans: two, Mask: 1, Bands: rows(row)}, bare},
		{api.Frame{Chans: two, Mask: -1}, bare},
		{api.Frame{Chans: two, Bands: rows(row)}, bare},
		{api.Frame{Chans: two, Common: true, Mask: 3}, common},
		{api.Frame{Chans: two, Common: true, Mask: math.MaxInt, Bands: rows(row)}, common},
		{api.Frame{Chans: two, Common: true, Bands: rows(row)}, common},
		{api.Frame{Chans: two, Common: true, Mask: 2, Bands: rows(row)}, side},
		{api.Frame{Chans: two, Common: true, Mask: 1}, common},
		{api.Frame{Chans: two, Common: true, Mask: 1, Bands: rows(row[:1])}, common},
		{api.Frame{Chans: two, Common: true, Mask: 1, Bands: rows(row, row)}, common},
		{api.Frame{Chans: two, Common: true, Mask: 1, Bands: rows(append(row, true))}, common},
		// below 0 it stays, and so the frame may not be
		{api.Frame{Chans: two, Common: true, Mask: -1, Fill: []byte{1}}, api.Frame{Chans: chans(plain(4, 0, 0), plain(4, 0, 0))}},
	} {
		holds(t, string(rune('a'+n)), stereo(), was, c.f, c.want)
	}
	// Plain records of both have the same windows again, if their shapes are the same.
	holds(t, "plain", stereo(), was, api.Frame{Chans: chans(s, s), Common: true, Mask: 2}, api.Frame{Chans: chans(plain(4, 0, 0), plain(4, 0, 0)), Common: true, Mask: 2})
	holds(t, "plain", stereo(), was, api.Frame{Chans: chans(s, zero(2, 1, 2)), Common: true, Mask: 2}, api.Frame{Chans: chans(plain(4, 0, 0), plain(4, 0, 1))})
	holds(t, "no bands", stereo(), was, api.Frame{Common: true, Mask: 1, Bands: rows(nil)}, api.Frame{Chans: chans(plain(4, 0, 0), plain(4, 0, 0)), Common: true, Mask: 1, Bands: rows(nil)})
	f := api.Frame{Chans: chans(s, s), Common: true, Mask: 1, Bands: rows(row, row)}
	holds(t, "shorts", stereo(), []uint8{1, 2}, f, f)
	f.Bands = rows(row)
	holds(t, "shorts", stereo(), []uint8{1, 2}, f, api.Frame{Chans: chans(s, s), Common: true})
	f.Bands = rows(row, row[:1])
	holds(t, "shorts", stereo(), []uint8{1, 2}, f, api.Frame{Chans: chans(s, s), Common: true})
}

// TestFill holds the last two steps.
func TestFill(t *testing.T) {
	a := zero(0, 1, 2)
	for n := 0; n <= 280; n++ {
		f := api.Frame{Chans: chans(a), Fill: make([]byte, n)}
		want := f
		if n > 269 {
			want.Fill = nil
		} else if raw.Check(mono(), f) == api.ErrFull {
			want = api.Frame{Chans: chans(plain(4, 3, 1))}
		}
		holds(t, "fill", mono(), []uint8{3}, f, want)
	}
	f := api.Frame{Chans: chans(a, a), Common: true, Mask: 2, Fill: make([]byte, 270)}
	holds(t, "fill of two", stereo(), []uint8{0, 3}, f, api.Frame{Chans: f.Chans, Common: true, Mask: 2})
	// Both are too much, so both go, and all else.
	loud := zero(0, 1, 20)
	loud.Sections[0][0].Book, loud.Gain = 11, 9
	for n := range loud.Steps[0] {
		loud.Steps[0][n] = 9
	}
	o, _ := band.Offsets(4, false)
	for n := range o[20] {
		loud.Lines[n] = 8000
	}
	if n, e := raw.Bits(mono(), api.Frame{Chans: chans(loud)}); n <= 3072 || e != api.OK {
		t.Fatal(n, e)
	}
	f = api.Frame{Chans: chans(loud, a), Fill: []byte{1}}
	holds(t, "full", stereo(), []uint8{0, 0}, f, api.Frame{Chans: chans(plain(4, 0, 1), plain(4, 0, 1))})
}

// TestAny holds P24.3 for frames that may be, and for ones in which something is odd.
func TestAny(t *testing.T) {
	d := sample.Dice(1)
	kept := 0
	for n := range 400 {
		c := api.Config{Rate: n % 12, Chans: 1 + n%2}
		was := []uint8{uint8(d.Roll(4)), uint8(d.Roll(4))}[:c.Chans]
		f := d.Frame(c.Rate, 1+d.Roll(2), 1+n%5)
		if d.Roll(3) == 0 {
			f.Chans[0].Lines[d.Roll(256)] += d.Roll(3)
		}
		if d.Roll(3) == 0 {
			f.Mask = d.Roll(5) - 1
		}
		got, e := mend.Mend(c, was, f)
		if e != api.OK || !goesOn(c, was, got) {
			t.Fatal(n, e)
		}
		if goesOn(c, was, f) {
			kept++
			if !raw.Same(got, f) {
				t.Fatal(n, "is not left")
			}
		}
		if again, _ := mend.Mend(c, was, got); !raw.Same(again, got) {
			t.Fatal(n, "is mended again")
		}
	}
	if kept < 20 {
		t.Error("too few frames go on", kept)
	}
	far := api.Info{Seq: 255, Shape: 255, Max: math.MaxInt, Groups: []int{math.MaxInt, math.MinInt}}
	wild := api.Chan{Gain: math.MinInt, Info: far, Sections: [][]api.Section{{{Book: math.MaxInt, Len: math.MinInt}}}, Steps: [][]int{nil}, Tns: [][]api.Filter{{{Len: math.MaxInt, Order: math.MinInt}}}, Lines: []int{math.MinInt}}
	f := api.Frame{Chans: chans(wild, wild, wild), Common: true, Mask: math.MaxInt, Bands: [][]bool{nil}, Fill: make([]byte, 5000)}
	holds(t, "wild", stereo(), []uint8{1, 0}, f, api.Frame{Chans: chans(plain(4, 1, 0), plain(4, 0, 0))})
}

// TestMemory holds P24.2.
func TestMemory(t *testing.T) {
	f := api.Frame{Chans: chans(zero(0, 0, 2), zero(0, 0, 2)), Common: true, Mask: 1, Bands: [][]bool{{true, false}}, Fill: []byte{1, 2}}
	f.Chans[0].Tns[0] = []api.Filter{{Order: 1, Coefs: []int{1}}}
	want := raw.Twin(f)
	was := []uint8{0, 3}
	got, _ := mend.Mend(stereo(), was, f)
	got.Chans[0].Lines[0], got.Chans[1].Info.Groups[0], got.Chans[0].Tns[0][0].Coefs[0] = 9, 9, 9
	got.Bands[0][0], got.Fill[0], got.Chans[0].Gain, got.Chans[1].Steps[0][0] = false, 9, 9, 9
	one := f
	one.Chans = f.Chans[:1]
	mend.Mend(stereo(), was, one)
	got, _ = mend.Mend(stereo(), was, api.Frame{Chans: f.Chans[:1]})
	got.Chans[0].Lines[0] = 9
	if !raw.Same(f, want) || was[0] != 0 || was[1] != 3 {
		t.Error("written to")
	}
}
