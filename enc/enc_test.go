package enc_test

import (
	"bytes"
	"math"
	"slices"
	"testing"

	"reedpipe/adts"
	"reedpipe/api"
	"reedpipe/band"
	"reedpipe/block"
	"reedpipe/enc"
	"reedpipe/info"
	"reedpipe/lane"
	"reedpipe/mend"
	"reedpipe/pick"
	"reedpipe/raw"
)

type dice uint32

func (d *dice) roll(n int) int {
	*d = *d*1664525 + 1013904223
	return int(*d>>8) % n
}

// pcm are samples of so many channels: silence, noise, a tone, or a stroke in silence.
func (d *dice) pcm(chans, kind int) [][]int {
	var out [][]int
	for c := range chans {
		l := make([]int, 256)
		for n := range l {
			switch kind % 5 {
			case 1:
				l[n] = d.roll(65536) - 32768
			case 2:
				l[n] = int(12000 * math.Sin(float64(n*(3+c))/9))
			case 3:
				if n >= 150 {
					l[n] = d.roll(40001) - 20000
				}
			case 4:
				l[n] = d.roll(21) - 10
			}
		}
		out = append(out, l)
	}
	return out
}

func samePen(a, b api.Pen) bool {
	return slices.EqualFunc(a.Past, b.Past, func(a, b []int) bool { return slices.Equal(a, b) }) && slices.Equal(a.Seqs, b.Seqs) && slices.Equal(a.Shapes, b.Shapes) && a.Spare == b.Spare
}

func twin(p api.Pen) api.Pen {
	out := api.Pen{Seqs: slices.Clone(p.Seqs), Shapes: slices.Clone(p.Shapes), Spare: p.Spare}
	for _, l := range p.Past {
		out.Past = append(out.Past, slices.Clone(l))
	}
	return out
}

func odd() []api.Config {
	return []api.Config{{}, {Chans: 3}, {Chans: -1}, {Rate: -1, Chans: 1}, {Rate: 12, Chans: 1}, {Chans: 1, Bits: -1}, {Chans: 1, Bits: 1537}, {Chans: 2, Bits: 3073}, {Chans: 1, Bits: math.MaxInt}, {Chans: math.MaxInt, Bits: 5}, {Chans: math.MinInt}}
}

func TestNew(t *testing.T) {
	for _, c := range odd() {
		if p, e := enc.New(c); e != api.ErrArg || !samePen(p, api.Pen{}) {
			t.Error(c, e)
		}
		if e := enc.Check(c, api.Pen{}); e != api.ErrArg {
			t.Error(c, e)
		}
		if p, b, f, e := enc.Next(c, api.Pen{}, api.Turn{}); e != api.ErrArg || !samePen(p, api.Pen{}) || len(b) != 0 || !raw.Same(f, api.Frame{}) {
			t.Error(c, e)
		}
		for _, n := range []int{0, 65537} {
			if b, l, e := enc.All(c, make([]api.Turn, n)); e != api.ErrArg || len(b) != 0 || len(l) != 0 {
				t.Error(c, e)
			}
		}
	}
	for _, c := range []api.Config{{Chans: 1}, {Rate: 11, Chans: 2, Crc: true, Bits: 3072}, {Rate: 3, Chans: 1, Bits: 1536}} {
		p, e := enc.New(c)
		if e != api.OK || len(p.Past) != c.Chans || p.Spare != 0 || !slices.Equal(p.Seqs, make([]uint8, c.Chans)) || !slices.Equal(p.Shapes, make([]uint8, c.Chans)) {
			t.Error(c, p, e)
		}
		for _, l := range p.Past {
			if !slices.Equal(l, make([]int, 256)) {
				t.Error(c, l)
			}
		}
		if e := enc.Check(c, p); e != api.OK {
			t.Error(c, e)
		}
		p.Past[0][0] = 9
		if again, _ := enc.New(c); again.Past[0][0] != 0 || c.Chans == 2 && p.Past[1][0] != 0 {
			t.Error("shares")
		}
	}
}

func TestCheck(t *testing.T) {
	c := api.Config{Chans: 2, Bits: 100}
	turn := api.Turn{Pcm: [][]int{make([]int, 256), make([]int, 256)}}
	for n, s := range []struct {
		change func(p *api.Pen)
		e      api.Errno
	}{
		{func(p *api.Pen) {}, api.OK},
		{func(p *api.Pen) { p.Past[0][0], p.Past[1][255] = 32767, -32768 }, api.OK},
		{func(p *api.Pen) { p.Seqs[0], p.Seqs[1], p.Shapes[1], p.Spare = 3, 2, 1, 2047 }, api.OK},
		{func(p *api.Pen) { p.Past[0][0] = 32768 }, api.ErrBad},
		{func(p *api.Pen) { p.Past[1][255] = -32769 }, api.ErrBad},
		{func(p *api.Pen) { p.Past[1][9] = math.MinInt }, api.ErrBad},
		{func(p *api.Pen) { p.Past = nil }, api.ErrBad},
		{func(p *api.Pen) { p.Past = p.Past[:1] }, api.ErrBad},
		{func(p *api.Pen) { p.Past = append(p.Past, make([]int, 256)) }, api.ErrBad},
		{func(p *api.Pen) { p.Past[1] = p.Past[1][:255] }, api.ErrBad},
		{func(p *api.Pen) { p.Past[0] = append(p.Past[0], 0) }, api.ErrBad},
		{func(p *api.Pen) { p.Seqs = p.Seqs[:1] }, api.ErrBad},
		{func(p *api.Pen) { p.Seqs = nil }, api.ErrBad},
		{func(p *api.Pen) { p.Seqs = append(p.Seqs, 0) }, api.ErrBad},
		{func(p *api.Pen) { p.Seqs[1] = 4 }, api.ErrBad},
		{func(p *api.Pen) { p.Seqs[0] = 255 }, api.ErrBad},
		{func(p *api.Pen) { p.Shapes = p.Shapes[:1] }, api.ErrBad},
		{func(p *api.Pen) { p.Shapes = append(p.Shapes, 0) }, api.ErrBad},
		{func(p *api.Pen) { p.Shapes[1] = 2 }, api.ErrBad},
		{func(p *api.Pen) { p.Spare = -1 }, api.ErrBad},
		{func(p *api.Pen) { p.Spare = 2048 }, api.ErrBad},
		{func(p *api.Pen) { p.Spare = math.MinInt }, api.ErrBad},
		{func(p *api.Pen) { *p = api.Pen{} }, api.ErrBad},
	} {
		p, _ := enc.New(c)
		s.change(&p)
		if e := enc.Check(c, p); e != s.e {
			t.Error(n, e)
		}
		for _, turn := range []api.Turn{turn, {}} {
			want := s.e
			if want == api.OK && len(turn.Pcm) == 0 {
				want = api.ErrMany
			}
			next, b, f, e := enc.Next(c, p, turn)
			if e != want || e != api.OK && (!samePen(next, api.Pen{}) || len(b) != 0 || !raw.Same(f, api.Frame{})) {
				t.Error(n, e)
			}
		}
	}
}

func TestTurns(t *testing.T) {
	c := api.Config{Chans: 2, Bits: 100}
	p, _ := enc.New(c)
	long := func(n int) []int { return make([]int, n) }
	one := func(at, v int) []int {
		l := long(256)
		l[at] = v
		return l
	}
	for n, s := range []struct {
		pcm [][]int
		e   api.Errno
	}{
		{nil, api.ErrMany}, {[][]int{long(256)}, api.ErrMany}, {[][]int{long(256), long(256), long(256)}, api.ErrMany}, {[][]int{long(256), long(255)}, api.ErrMany}, {[][]int{long(257), long(256)}, api.ErrMany},
		{[][]int{one(0, 40000), long(255)}, api.ErrMany},
		{[][]int{one(0, 32768), long(256)}, api.ErrArg}, {[][]int{long(256), one(255, -32769)}, api.ErrArg}, {[][]int{long(256), one(9, math.MinInt)}, api.ErrArg}, {[][]int{one(9, math.MaxInt), long(256)}, api.ErrArg},
		{[][]int{one(0, 32767), one(255, -32768)}, api.OK},
	} {
		for _, told := range []bool{false, true} {
			next, b, f, e := enc.Next(c, p, api.Turn{Pcm: s.pcm, Told: told})
			if e != s.e || e != api.OK && (!samePen(next, api.Pen{}) || len(b) != 0 || !raw.Same(f, api.Frame{})) {
				t.Error(n, told, e)
			}
			well := api.Turn{Pcm: [][]int{long(256), long(256)}}
			b, l, e := enc.All(c, []api.Turn{well, {Pcm: s.pcm, Told: told}, {}})
			want := s.e
			if want == api.OK {
				want = api.ErrMany // of the third one
			}
			if e != want || len(b) != 0 || len(l) != 0 {
				t.Error(n, told, e)
			}
		}
	}
	// One turn more than may be goes ahead of what is wrong in the first one.
	most := make([]api.Turn, 65537)
	most[0].Pcm = [][]int{one(9, 99999), long(256)}
	for n, want := range map[int]api.Errno{65536: api.ErrArg, 65537: api.ErrMany} {
		if b, l, e := enc.All(c, most[:n]); e != want || len(b) != 0 || len(l) != 0 {
			t.Error(n, e)
		}
	}
	if b, l, e := enc.All(c, nil); e != api.OK || len(b) != 0 || len(l) != 0 {
		t.Error(e)
	}
}

// next is chapter 28's.
func next(c api.Config, p api.Pen, t api.Turn) (api.Pen, []byte, api.Frame) {
	f := t.Frame
	if !t.Told {
		now, soon := false, false
		for n := range c.Chans {
			a, _ := pick.Attack(p.Past[n])
			b, _ := pick.Attack(t.Pcm[n])
			now, soon = now || a, soon || b
		}
		var i []api.Info
		var x [][]int
		for n := range c.Chans {
			w := api.Info{Groups: []int{1}}
			w.Seq, _ = pick.Seq(p.Seqs[n], now, soon)
			if w.Seq == 2 {
				w.Shape, w.Groups = 1, []int{8}
			}
			w.Max, _ = band.Many(c.Rate, w.Seq == 2)
			l, _ := block.Analyse(w.Seq, p.Shapes[n], w.Shape, append(slices.Clone(p.Past[n]), t.Pcm[n]...))
			i, x = append(i, w), append(x, l)
		}
		f, _ = pick.Frame(c, i, x, min(c.Bits+p.Spare, 1536*c.Chans))
	}
	f, _ = mend.Mend(c, p.Seqs, f)
	bits, _ := raw.Bits(c, f)
	out := api.Pen{Past: t.Pcm, Spare: max(0, min(2047, p.Spare+c.Bits-bits))}
	for _, ch := range f.Chans {
		out.Seqs, out.Shapes = append(out.Seqs, ch.Info.Seq), append(out.Shapes, ch.Info.Shape)
	}
	b, _ := adts.Write(c, out.Spare, f)
	return out, b, f
}

// told is a record, of which something may be odd.
func (d *dice) told(c api.Config) api.Frame {
	var f api.Frame
	for range 1 + d.roll(2) {
		i := api.Info{Seq: uint8(d.roll(5)), Shape: uint8(d.roll(3)), Max: d.roll(8), Groups: []int{1}}
		if i.Seq == 2 {
			i.Groups[0] = 8
		}
		ch, _ := lane.Zero(c.Rate, i)
		f.Chans = append(f.Chans, ch)
	}
	f.Common, f.Mask, f.Fill = d.roll(2) == 1, d.roll(4), make([]byte, d.roll(290))
	return f
}

func TestNext(t *testing.T) {
	d := dice(1)
	seqs := map[uint8]int{}
	for n := range 14 {
		c := api.Config{Rate: n % 12, Chans: 1 + n%2, Crc: n%3 == 0}
		c.Bits = []int{0, 40, 300, 800, 1536}[n%5] * c.Chans
		p, _ := enc.New(c)
		was := make([]uint8, c.Chans)
		var turns []api.Turn
		var all []byte
		var records []api.Frame
		for range 16 {
			turn := api.Turn{Pcm: d.pcm(c.Chans, d.roll(5)), Told: d.roll(4) == 0}
			if d.roll(3) == 0 {
				turn.Frame = d.told(c)
			}
			turns = append(turns, turn)
			want, wantB, wantF := next(c, p, turn)
			before := twin(p)
			got, b, f, e := enc.Next(c, p, turn)
			if e != api.OK || !samePen(got, want) || !bytes.Equal(b, wantB) || !raw.Same(f, wantF) {
				t.Fatal(n, e)
			}
			if !samePen(p, before) || enc.Check(c, got) != api.OK {
				t.Fatal(n, "an encoder is changed, or may not be")
			}
			// W1: bytes are one frame, which is read as the record, which goes on.
			h, back, e := adts.Read(b)
			if e != api.OK || h.Full != got.Spare || h.Rate != c.Rate || h.Chans != c.Chans || h.Crc != c.Crc || !raw.Same(back, f) || len(b) > adts.Size(c.Crc)+192*c.Chans {
				t.Fatal(n, h, e)
			}
			for at, ch := range f.Chans {
				if !info.After(was[at], ch.Info.Seq) {
					t.Fatal(n, "may not follow")
				}
				was[at] = ch.Info.Seq
				seqs[ch.Info.Seq]++
			}
			p, all, records = got, append(all, b...), append(records, f)
		}
		b, l, e := enc.All(c, turns)
		if e != api.OK || !bytes.Equal(b, all) || !slices.EqualFunc(l, records, raw.Same) {
			t.Fatal(n, e)
		}
	}
	if len(seqs) != 4 {
		t.Error("not all sequences", seqs)
	}
}

// TestTold holds that a record that is told, and goes on, is the record, whatever the samples.
func TestTold(t *testing.T) {
	c := api.Config{Rate: 2, Chans: 2, Bits: 100}
	p, _ := enc.New(c)
	ch, _ := lane.Zero(2, api.Info{Seq: 1, Shape: 1, Max: 3, Groups: []int{1}})
	f := api.Frame{Chans: []api.Chan{ch, ch}, Common: true, Mask: 1, Bands: [][]bool{{true, false, true}}, Fill: []byte{1, 2}}
	d := dice(3)
	turn := api.Turn{Pcm: d.pcm(2, 1), Told: true, Frame: raw.Twin(f)}
	got, _, back, e := enc.Next(c, p, turn)
	if e != api.OK || !raw.Same(back, f) || got.Seqs[1] != 1 || got.Shapes[0] != 1 {
		t.Error(e)
	}
	// A record that is not told counts for nothing.
	turn.Told = false
	_, b, _, _ := enc.Next(c, p, turn)
	turn.Frame = api.Frame{}
	if _, again, _, _ := enc.Next(c, p, turn); !bytes.Equal(b, again) {
		t.Error("hangs on a record that is not told")
	}
}

// TestMemory holds P28.3.
func TestMemory(t *testing.T) {
	c := api.Config{Rate: 2, Chans: 1, Bits: 100}
	p, _ := enc.New(c)
	ch, _ := lane.Zero(2, api.Info{Max: 3, Groups: []int{1}})
	f := api.Frame{Chans: []api.Chan{ch}, Fill: []byte{1, 2}}
	d := dice(3)
	turn := api.Turn{Pcm: d.pcm(1, 2), Told: true, Frame: f}
	pcm, frame := slices.Clone(turn.Pcm[0]), raw.Twin(f)
	got, b, back, _ := enc.Next(c, p, turn)
	got.Past[0][0], got.Seqs[0], got.Shapes[0], b[0] = 7, 3, 1, 0
	back.Chans[0].Lines[0], back.Chans[0].Info.Groups[0], back.Fill[0] = 9, 9, 9
	first, _ := enc.New(c)
	if !samePen(p, first) || !slices.Equal(turn.Pcm[0], pcm) || !raw.Same(f, frame) {
		t.Error("written to")
	}
	sent, l, _ := enc.All(c, []api.Turn{turn, turn})
	l[0].Chans[0].Lines[0] = 9
	if l[1].Chans[0].Lines[0] == 9 || !raw.Same(f, frame) {
		t.Error("shares")
	}
	clear(sent)
}
