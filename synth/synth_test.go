package synth_test

import (
	"math"
	"slices"
	"testing"

	"reedpipe/api"
	"reedpipe/band"
	"reedpipe/info"
	"reedpipe/lane"
	"reedpipe/lap"
	"reedpipe/mid"
	"reedpipe/noise"
	"reedpipe/power"
	"reedpipe/raw"
	"reedpipe/sample"
	"reedpipe/synth"
	"reedpipe/tns"
)

// dice are those of sample, with small frames.
type dice struct{ sample.Dice }

// small is a frame that may be, with its bits.
func (d *dice) small(c api.Config) api.Frame {
	for {
		f := d.Frame(c.Rate, c.Chans, 1+d.Roll(12))
		if raw.Check(c, f) == api.OK {
			return f
		}
	}
}

// lines are chapter 29's, line by line.
func lines(c api.Config, f api.Frame) [][]int {
	var out [][]int
	for _, ch := range f.Chans {
		x := make([]int, 256)
		o, _ := band.Offsets(c.Rate, ch.Info.Seq == 2)
		windows, _ := info.Windows(ch.Info)
		for w := range windows {
			g, _ := info.Group(ch.Info, w)
			for b := range ch.Info.Max {
				id, _ := lane.Book(ch.Sections, g, b)
				step := ch.Steps[g][b]
				l := x[32*w+o[b] : 32*w+o[b+1]]
				if id == 13 {
					seed, _ := noise.Seed(ch.Gain, w, b)
					v, _ := noise.Band(seed, step, len(l))
					copy(l, v)
				} else if id > 0 {
					for n := range l {
						l[n], _ = power.Line(ch.Lines[32*w+o[b]+n], step)
					}
				}
			}
		}
		out = append(out, x)
	}
	if f.Mask > 0 {
		i := f.Chans[0].Info
		for n := range 256 {
			w, at := 0, n
			if i.Seq == 2 {
				w, at = n/32, n%32
			}
			g, _ := info.Group(i, w)
			b, _ := band.Of(c.Rate, i.Seq == 2, at)
			if b < i.Max && (f.Mask == 2 || f.Bands[g][b]) {
				l, r, _ := mid.Join(out[0][n:n+1], out[1][n:n+1])
				out[0][n], out[1][n] = l[0], r[0]
			}
		}
	}
	for n, ch := range f.Chans {
		out[n], _ = tns.Back(c.Rate, ch.Info, ch.Tns, out[n])
	}
	return out
}

func same(a, b [][]int) bool {
	return slices.EqualFunc(a, b, func(a, b []int) bool { return slices.Equal(a, b) })
}

func sameLaps(a, b []api.Lap) bool {
	return slices.EqualFunc(a, b, func(a, b api.Lap) bool { return slices.Equal(a.Tail, b.Tail) && a.Seq == b.Seq && a.Shape == b.Shape })
}

func TestLines(t *testing.T) {
	d := dice{1}
	masks := map[int]int{}
	for n := range 400 {
		c := api.Config{Rate: n % 12, Chans: 1 + n%2, Crc: n%3 == 0, Bits: -n}
		f := d.small(c)
		masks[f.Mask]++
		was := raw.Twin(f)
		got, e := synth.Lines(c, f)
		if e != api.OK || !same(got, lines(c, f)) {
			t.Fatal(n, e)
		}
		if !raw.Same(f, was) {
			t.Fatal(n, "written to")
		}
	}
	if masks[1] < 10 || masks[2] < 10 {
		t.Error("not of all kinds", masks)
	}
}

func TestNew(t *testing.T) {
	for chans := 1; chans <= 2; chans++ {
		l, e := synth.New(chans)
		if e != api.OK || !sameLaps(l, []api.Lap{lap.New(), lap.New()}[:chans]) {
			t.Error(chans, e)
		}
		l[0].Tail[0] = 9
		if l[chans-1].Tail[0] != 0 && chans == 2 {
			t.Error("shares")
		}
	}
	for _, chans := range []int{0, 3, -1, math.MaxInt, math.MinInt} {
		if l, e := synth.New(chans); e != api.ErrArg || len(l) != 0 {
			t.Error(chans, e)
		}
	}
}

func zero(rate int, seq uint8) api.Chan {
	i := api.Info{Seq: seq, Max: 1, Groups: []int{1}}
	if seq == 2 {
		i.Groups[0] = 8
	}
	c, _ := lane.Zero(rate, i)
	return c
}

func TestRefuses(t *testing.T) {
	right := api.Frame{Chans: []api.Chan{zero(0, 0)}}
	full := api.Frame{Chans: right.Chans, Fill: make([]byte, 269)}
	mono := api.Config{Chans: 1}
	laps, _ := synth.New(1)
	odd := []api.Lap{{Tail: make([]int, 256), Seq: 4}}
	for n, s := range []struct {
		c    api.Config
		laps []api.Lap
		f    api.Frame
		e    api.Errno // of Next
		raw  api.Errno // of Lines
	}{
		{api.Config{}, nil, right, api.ErrArg, api.ErrArg},
		{api.Config{Chans: 3}, laps, right, api.ErrArg, api.ErrArg},
		{api.Config{Rate: 12, Chans: 1}, nil, right, api.ErrArg, api.ErrArg},
		{mono, nil, api.Frame{}, api.ErrBad, api.ErrBad},
		{mono, odd, full, api.ErrFull, api.ErrFull},
		{api.Config{Chans: 2}, laps, right, api.ErrBad, api.ErrBad},
		{mono, nil, right, api.ErrMany, api.OK},
		{mono, append(slices.Clone(odd), odd...), right, api.ErrMany, api.OK},
		{mono, odd, right, api.ErrBad, api.OK},
		{mono, []api.Lap{{}}, right, api.ErrBad, api.OK},
		{api.Config{Chans: 2}, []api.Lap{laps[0], odd[0]}, api.Frame{Chans: []api.Chan{zero(0, 0), zero(0, 0)}}, api.ErrBad, api.OK},
		{mono, laps, right, api.OK, api.OK},
	} {
		if l, pcm, e := synth.Next(s.c, s.laps, s.f); e != s.e || e != api.OK && (len(l) != 0 || len(pcm) != 0) {
			t.Error(n, e)
		}
		if x, e := synth.Lines(s.c, s.f); e != s.raw || e != api.OK && len(x) != 0 {
			t.Error(n, e)
		}
		if pcm, e := synth.All(s.c, []api.Frame{s.f, {}}); e != s.raw && s.raw != api.OK || s.raw == api.OK && e != api.ErrBad || len(pcm) != 0 {
			t.Error(n, e)
		}
	}
	for _, c := range []api.Config{{}, {Chans: 3}, {Rate: -1, Chans: 1}, {Rate: 12, Chans: 2}} {
		for _, n := range []int{0, 65537} {
			if pcm, e := synth.All(c, make([]api.Frame, n)); e != api.ErrArg || len(pcm) != 0 {
				t.Error(c, e)
			}
		}
	}
	if pcm, e := synth.All(mono, make([]api.Frame, 65537)); e != api.ErrMany || len(pcm) != 0 {
		t.Error(e)
	}
	if pcm, e := synth.All(mono, make([]api.Frame, 65536)); e != api.ErrBad || len(pcm) != 0 {
		t.Error(e)
	}
	if pcm, e := synth.All(mono, []api.Frame{right, full, {}}); e != api.ErrFull || len(pcm) != 0 {
		t.Error(e)
	}
	for chans := 1; chans <= 2; chans++ {
		if pcm, e := synth.All(api.Config{Chans: chans}, nil); e != api.OK || len(pcm) != chans || len(pcm[0]) != 0 {
			t.Error(pcm, e)
		}
	}
}

func TestFrames(t *testing.T) {
	d := dice{4}
	for n := range 30 {
		c := api.Config{Rate: n % 12, Chans: 1 + n%2}
		laps, _ := synth.New(c.Chans)
		var frames []api.Frame
		want := make([][]int, c.Chans)
		for range 7 {
			f := d.small(c)
			frames = append(frames, f)
			var next []api.Lap
			var pcm [][]int
			for at, x := range lines(c, f) {
				l, samples, e := lap.Next(laps[at], f.Chans[at].Info.Seq, f.Chans[at].Info.Shape, x)
				if e != api.OK {
					t.Fatal(n, e)
				}
				next, pcm = append(next, l), append(pcm, samples)
				want[at] = append(want[at], samples...)
			}
			tail := slices.Clone(laps[0].Tail)
			got, sound, e := synth.Next(c, laps, f)
			if e != api.OK || !sameLaps(got, next) || !same(sound, pcm) {
				t.Fatal(n, e)
			}
			if !slices.Equal(laps[0].Tail, tail) {
				t.Fatal(n, "written to")
			}
			laps = got
		}
		got, e := synth.All(c, frames)
		if e != api.OK || !same(got, want) {
			t.Fatal(n, e)
		}
		for _, l := range got {
			if len(l) != 7*256 || slices.Max(l) > 32767 || slices.Min(l) < -32768 {
				t.Error(n, len(l))
			}
		}
		// P29.4: a sample hangs on its own frame, and the one ahead, alone, and on the shape ahead of that.
		cut, _ := synth.All(c, frames[2:])
		ahead := frames[1].Chans
		if slices.ContainsFunc(ahead, func(ch api.Chan) bool { return ch.Info.Shape != 0 }) {
			continue
		}
		for at := range got {
			if !slices.Equal(got[at][3*256:], cut[at][256:]) {
				t.Error(n, "hangs on more")
			}
		}
	}
}

// TestAlone holds that where nothing is middle and side a channel hangs on itself alone.
func TestAlone(t *testing.T) {
	d := dice{8}
	for n := range 40 {
		c := api.Config{Rate: n % 12, Chans: 2}
		f := d.small(c)
		f.Mask, f.Bands = 0, nil
		both, e := synth.Lines(c, f)
		if e != api.OK {
			t.Fatal(n, e)
		}
		for at := range both {
			one := api.Frame{Chans: f.Chans[at : at+1]}
			mono := api.Config{Rate: c.Rate, Chans: 1}
			if raw.Check(mono, one) != api.OK {
				continue
			}
			if alone, e := synth.Lines(mono, one); e != api.OK || !slices.Equal(alone[0], both[at]) {
				t.Error(n, at, e)
			}
		}
	}
}

// TestMemory holds P29.3 as to what is answered.
func TestMemory(t *testing.T) {
	c := api.Config{Chans: 2}
	f := api.Frame{Chans: []api.Chan{zero(0, 1), zero(0, 1)}, Common: true, Mask: 2}
	laps, _ := synth.New(2)
	x, _ := synth.Lines(c, f)
	x[0][0] = 9
	l, pcm, _ := synth.Next(c, laps, f)
	l[0].Tail[0], pcm[0][0] = 9, 9
	if x[1][0] != 0 || l[1].Tail[0] != 0 || pcm[1][0] != 0 || laps[0].Tail[0] != 0 {
		t.Error("shares")
	}
}
