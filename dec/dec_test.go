package dec_test

import (
	"bytes"
	"math"
	"slices"
	"testing"

	"reedpipe/adts"
	"reedpipe/api"
	"reedpipe/dec"
	"reedpipe/enc"
	"reedpipe/lane"
	"reedpipe/lap"
	"reedpipe/lose"
	"reedpipe/raw"
	"reedpipe/sample"
	"reedpipe/sync"
	"reedpipe/synth"
)

// dice are those of sample, with small frames.
type dice struct{ sample.Dice }

// small is a frame that may be, with its bits.
func (d *dice) small(c api.Config) api.Frame {
	for {
		f := d.Frame(c.Rate, c.Chans, 1+d.Roll(12))
		if raw.Check(c, f) == api.OK {
			return f
		}
	}
}

// play is chapter 31's, channel by channel.
func play(c api.Config, l []api.Slot) [][]int {
	out := make([][]int, c.Chans)
	for ch := range out {
		o := lap.New()
		long := func(n int) []int {
			if n < 0 || n >= len(l) || l[n].Frame.Chans[ch].Info.Seq == 2 {
				return nil
			}
			x, _ := synth.Lines(c, l[n].Frame)
			return x[ch]
		}
		for n, s := range l {
			var x, pcm []int
			seq, shape := uint8(0), o.Shape
			if s.Lost {
				from, to := n, n
				for from > 0 && l[from-1].Lost {
					from--
				}
				for to < len(l) && l[to].Lost {
					to++
				}
				before := long(from - 1)
				if before == nil {
					before = make([]int, 256)
				}
				seq, _ = lose.Seq(o.Seq)
				x, _ = lose.Lines(before, long(to), n-from+1, to-from)
			} else {
				all, _ := synth.Lines(c, s.Frame)
				x, seq, shape = all[ch], s.Frame.Chans[ch].Info.Seq, s.Frame.Chans[ch].Info.Shape
			}
			o, pcm, _ = lap.Next(o, seq, shape, x)
			out[ch] = append(out[ch], pcm...)
		}
	}
	return out
}

func same(a, b [][]int) bool {
	return slices.EqualFunc(a, b, func(a, b []int) bool { return slices.Equal(a, b) })
}

func TestPlay(t *testing.T) {
	d := dice{1}
	for n := range 60 {
		c := api.Config{Rate: n % 12, Chans: 1 + n%2, Crc: n%3 == 0, Bits: -n}
		var l []api.Slot
		for range 4 {
			for range d.Roll(4) {
				l = append(l, api.Slot{At: -5, Len: d.Roll(9), Frame: d.small(c)})
			}
			for range []int{0, 1, 1, 2, 2, 3, 5, 12}[d.Roll(8)] {
				l = append(l, api.Slot{Lost: true})
			}
		}
		want := play(c, l)
		var was []api.Frame
		for _, s := range l {
			was = append(was, raw.Twin(s.Frame))
		}
		got, e := dec.Play(c, l)
		if e != api.OK || !same(got, want) {
			t.Fatal(n, e)
		}
		for at, s := range l {
			if !raw.Same(s.Frame, was[at]) {
				t.Fatal(n, "written to")
			}
		}
		for _, samples := range got {
			if len(samples) != 256*len(l) || len(l) > 0 && (slices.Max(samples) > 32767 || slices.Min(samples) < -32768) {
				t.Fatal(n, len(samples))
			}
		}
		// What a lost slot has as its frame counts for nothing.
		for at := range l {
			if l[at].Lost {
				l[at].Frame = d.small(c)
				l[at].Frame.Mask = 9
			}
		}
		if again, e := dec.Play(c, l); e != api.OK || !same(again, want) {
			t.Fatal(n, "frames of lost slots", e)
		}
		// Without lost ones it is synth.All.
		l = slices.DeleteFunc(l, func(s api.Slot) bool { return s.Lost })
		var frames []api.Frame
		for _, s := range l {
			frames = append(frames, s.Frame)
		}
		plain, _ := synth.All(c, frames)
		if got, e := dec.Play(c, l); e != api.OK || !same(got, plain) {
			t.Fatal(n, "nothing lost", e)
		}
	}
}

func zero(seq uint8, most int) api.Chan {
	i := api.Info{Seq: seq, Max: most, Groups: []int{1}}
	if seq == 2 {
		i.Groups[0] = 8
	}
	c, _ := lane.Zero(0, i)
	return c
}

func TestExamples(t *testing.T) {
	c := api.Config{Chans: 1}
	if got, e := dec.Play(c, nil); e != api.OK || len(got) != 1 || len(got[0]) != 0 {
		t.Error(got, e)
	}
	if got, e := dec.Decode(c, nil); e != api.OK || len(got) != 1 || len(got[0]) != 0 {
		t.Error(got, e)
	}
	if got, e := dec.Play(c, []api.Slot{{Lost: true}, {Lost: true}}); e != api.OK || !same(got, [][]int{make([]int, 512)}) {
		t.Error(got, e)
	}
	if got, e := dec.Decode(api.Config{Chans: 3}, nil); e != api.ErrArg || len(got) != 0 {
		t.Error(got, e)
	}
}

func TestRefuses(t *testing.T) {
	mono := api.Config{Chans: 1}
	right := api.Slot{Frame: api.Frame{Chans: []api.Chan{zero(0, 1)}}}
	full := api.Slot{Frame: api.Frame{Chans: right.Frame.Chans, Fill: make([]byte, 269)}}
	for _, c := range []api.Config{{}, {Chans: 3}, {Chans: -1}, {Rate: -1, Chans: 1}, {Rate: 12, Chans: 1}, {Rate: math.MaxInt, Chans: 2}} {
		for _, n := range []int{0, 1, 65537} {
			if got, e := dec.Play(c, make([]api.Slot, n)); e != api.ErrArg || len(got) != 0 {
				t.Error(c, n, e)
			}
		}
		if got, e := dec.Decode(c, make([]byte, 1<<24+1)); e != api.ErrArg || len(got) != 0 {
			t.Error(c, e)
		}
	}
	for n, s := range []struct {
		l []api.Slot
		e api.Errno
	}{
		{make([]api.Slot, 65537), api.ErrMany},
		{make([]api.Slot, 65536), api.ErrBad},
		{[]api.Slot{{}}, api.ErrBad},
		{[]api.Slot{right, {Lost: true}, full, {}}, api.ErrFull},
		{[]api.Slot{right, {}, full}, api.ErrBad},
		{[]api.Slot{{Frame: api.Frame{Chans: []api.Chan{zero(0, 1), zero(0, 1)}}}}, api.ErrBad},
	} {
		if got, e := dec.Play(mono, s.l); e != s.e || len(got) != 0 {
			t.Error(n, e)
		}
	}
	if got, e := dec.Decode(mono, make([]byte, 1<<24+1)); e != api.ErrText || len(got) != 0 {
		t.Error(e)
	}
	if got, e := dec.Decode(mono, make([]byte, 1<<24)); e != api.OK || len(got) != 1 || len(got[0]) != 0 {
		t.Error(e)
	}
}

// TestMany holds bytes to as many slots as may be played.
func TestMany(t *testing.T) {
	c := api.Config{Chans: 1}
	f, _ := adts.Write(c, 0, api.Frame{Chans: []api.Chan{zero(0, 0)}})
	if got, e := dec.Decode(c, bytes.Repeat(f, 65537)); e != api.ErrMany || len(got) != 0 {
		t.Error(e)
	}
}

// TestDecode holds any bytes: they are what is found in them, played.
func TestDecode(t *testing.T) {
	d := dice{5}
	for n := range 40 {
		c := api.Config{Rate: n % 12, Chans: 1 + n%2, Crc: n%3 > 0}
		var b []byte
		for range 8 {
			f, _ := adts.Write(c, d.Roll(2048), d.small(c))
			switch d.Roll(5) {
			case 0:
				f[d.Roll(len(f))] ^= byte(1 << d.Roll(8))
			case 1:
				f = f[:d.Roll(len(f))]
			case 2:
				for range d.Roll(20) {
					b = append(b, byte(d.Roll(256)))
				}
			}
			b = append(b, f...)
		}
		was := bytes.Clone(b)
		l, _ := sync.Scan(c, b)
		got, e := dec.Decode(c, b)
		if e != api.OK || !same(got, play(c, l)) || !bytes.Equal(b, was) {
			t.Fatal(n, e)
		}
		if len(got) != c.Chans || len(got[0]) != 256*len(l) {
			t.Fatal(n, len(got))
		}
	}
}

// TestHurt holds W4: one frame with a sum is hurt, that one is lost, and behind two that are not all is as it was.
func TestHurt(t *testing.T) {
	d := dice{9}
	for n := range 12 {
		c := api.Config{Rate: n % 12, Chans: 1 + n%2, Crc: true, Bits: 400}
		var turns []api.Turn
		for range 10 {
			turn := api.Turn{}
			for range c.Chans {
				pcm := make([]int, 256)
				size := 1 + d.Roll(20000)
				for at := range pcm {
					if at%64 == 0 && d.Roll(5) == 0 {
						size = 1 + d.Roll(30000)
					}
					pcm[at] = d.Roll(2*size) - size
				}
				turn.Pcm = append(turn.Pcm, pcm)
			}
			turns = append(turns, turn)
		}
		b, frames, e := enc.All(c, turns)
		if e != api.OK {
			t.Fatal(n, e)
		}
		whole, e := dec.Decode(c, b)
		plain, _ := synth.All(c, frames)
		if e != api.OK || !same(whole, plain) {
			t.Fatal(n, e)
		}
		slots, _ := sync.Scan(c, b)
		which := 3 + d.Roll(3)
		first, last := 8*(slots[which].At+9), 8*(slots[which].At+slots[which].Len)
		at := first + d.Roll(last-first)
		hurt := bytes.Clone(b)
		for i := at; i < min(at+16, last); i++ {
			if i == at || d.Roll(2) == 1 {
				hurt[i/8] ^= 128 >> (i % 8)
			}
		}
		found, _ := sync.Scan(c, hurt)
		for i, s := range found {
			if len(found) != 10 || s.Lost != (i == which) || s.At != slots[i].At {
				t.Fatal(n, i, s.Lost)
			}
		}
		got, e := dec.Decode(c, hurt)
		if e != api.OK {
			t.Fatal(n, e)
		}
		for ch := range got {
			if len(got[ch]) != 2560 || !slices.Equal(got[ch][:256*which], whole[ch][:256*which]) || !slices.Equal(got[ch][256*(which+3):], whole[ch][256*(which+3):]) {
				t.Error(n, ch)
			}
		}
	}
}

// TestNew holds that channels share no memory.
func TestNew(t *testing.T) {
	got, _ := dec.Play(api.Config{Chans: 2}, []api.Slot{{Lost: true}})
	got[0][0] = 9
	_ = append(got[0], 7)
	if got[1][0] != 0 {
		t.Error("shares")
	}
}
