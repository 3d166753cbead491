package sync_test

import (
	"bytes"
	"math"
	"slices"
	"testing"

	"reedpipe/adts"
	"reedpipe/api"
	"reedpipe/lane"
	"reedpipe/raw"
	"reedpipe/sync"
)

type dice uint32

func (d *dice) roll(n int) int {
	*d = *d*1664525 + 1013904223
	return int(*d>>8) % n
}

// channel is one of book 1, with lines of 1 here and there.
func (d *dice) channel(rate int) api.Chan {
	most := 1 + d.roll(8)
	c, _ := lane.Zero(rate, api.Info{Max: most, Groups: []int{1}})
	c.Sections[0][0].Book, c.Gain = 1, 50
	for b := range c.Steps[0] {
		c.Steps[0][b] = 50 + d.roll(20)
	}
	for n := range 4 * most {
		c.Lines[n] = d.roll(3) - 1
	}
	return c
}

func (d *dice) frame(c api.Config) api.Frame {
	var f api.Frame
	for range c.Chans {
		f.Chans = append(f.Chans, d.channel(c.Rate))
	}
	f.Fill = bytes.Repeat([]byte{255}, d.roll(9))
	return f
}

func (d *dice) bytes(c api.Config) []byte {
	b, _ := adts.Write(c, d.roll(2048), d.frame(c))
	return b
}

// headed tells whether a header of the config stands at a place, with as many bytes as its Len.
func headed(c api.Config, b []byte, at int) (int, bool) {
	h, e := adts.Head(b[at:])
	return h.Len, e == api.OK && h.Rate == c.Rate && h.Chans == c.Chans && h.Crc == c.Crc && at+h.Len <= len(b)
}

// scan is chapter 26's, place by place.
func scan(c api.Config, b []byte) []api.Slot {
	var out []api.Slot
	expected, at := true, 0
	for at < len(b) {
		n, ok := headed(c, b, at)
		if !ok {
			expected = false
			at++
			continue
		}
		_, f, e := adts.Read(b[at : at+n])
		if e != api.OK && !expected {
			at++
			continue
		}
		out = append(out, api.Slot{At: at, Len: n, Lost: e != api.OK, Frame: f})
		expected = true
		at += n
	}
	return out
}

func same(a, b []api.Slot) bool {
	return slices.EqualFunc(a, b, func(a, b api.Slot) bool {
		return a.At == b.At && a.Len == b.Len && a.Lost == b.Lost && raw.Same(a.Frame, b.Frame)
	})
}

// places are slots without their frames.
func places(l []api.Slot) []api.Slot {
	var out []api.Slot
	for _, s := range l {
		s.Frame = api.Frame{}
		out = append(out, s)
	}
	return out
}

func eleven() []byte { return []byte{255, 241, 64, 64, 1, 96, 20, 0, 0, 0, 7} }

func TestExamples(t *testing.T) {
	f, lost := eleven(), eleven()
	lost[10] = 6
	c := api.Config{Chans: 1}
	for n, s := range []struct {
		b    []byte
		want []api.Slot
	}{
		{slices.Concat(f, f), []api.Slot{{At: 0, Len: 11}, {At: 11, Len: 11}}},
		{slices.Concat([]byte{0, 1}, f), []api.Slot{{At: 2, Len: 11}}},
		{slices.Concat(lost, f), []api.Slot{{At: 0, Len: 11, Lost: true}, {At: 11, Len: 11}}},
		{f[:10], nil},
		{nil, nil},
		{slices.Concat([]byte{0}, lost, f), []api.Slot{{At: 12, Len: 11}}}, // what is lost is told at an expected place only
		{slices.Concat(f, lost, f), []api.Slot{{At: 0, Len: 11}, {At: 11, Len: 11, Lost: true}, {At: 22, Len: 11}}},
		{slices.Concat(f, lost, lost), []api.Slot{{At: 0, Len: 11}, {At: 11, Len: 11, Lost: true}, {At: 22, Len: 11, Lost: true}}},
		{slices.Concat(f, []byte{9}, lost), []api.Slot{{At: 0, Len: 11}}},
		{slices.Concat([]byte{255, 255}, f, f[:10]), []api.Slot{{At: 2, Len: 11}}},
		{slices.Concat(f[:10], f), []api.Slot{{At: 0, Len: 11, Lost: true}}}, // a header, and enough bytes, that are no frame
		{[]byte{255}, nil},
		{bytes.Repeat([]byte{255}, 50), nil},
	} {
		got, e := sync.Scan(c, s.b)
		if e != api.OK || !same(places(got), s.want) {
			t.Error(n, places(got), e)
		}
		for _, s := range got {
			if !s.Lost && len(s.Frame.Chans) != 1 || s.Lost && !raw.Same(s.Frame, api.Frame{}) {
				t.Error(n, s)
			}
		}
	}
}

func TestRefuses(t *testing.T) {
	long := make([]byte, api.MaxBytes+1)
	for n, s := range []struct {
		c api.Config
		b []byte
		e api.Errno
	}{
		{api.Config{}, nil, api.ErrArg}, {api.Config{Chans: 3}, eleven(), api.ErrArg}, {api.Config{Rate: 12, Chans: 1}, long, api.ErrArg}, {api.Config{Rate: -1, Chans: 1}, long, api.ErrArg}, {api.Config{Chans: math.MinInt}, nil, api.ErrArg},
		{api.Config{Chans: 1}, long, api.ErrText},
	} {
		if got, e := sync.Scan(s.c, s.b); e != s.e || len(got) != 0 {
			t.Error(n, len(got), e)
		}
	}
	copy(long[api.MaxBytes-11:], eleven())
	if got, e := sync.Scan(api.Config{Chans: 1}, long[:api.MaxBytes]); e != api.OK || len(got) != 1 || got[0].At != api.MaxBytes-11 {
		t.Error(len(got), e)
	}
	// Bits count for nothing.
	if got, e := sync.Scan(api.Config{Chans: 1, Bits: -5}, eleven()); e != api.OK || len(got) != 1 {
		t.Error(len(got), e)
	}
}

// TestAny holds bytes of all kinds against places gone over one by one.
func TestAny(t *testing.T) {
	d := dice(1)
	for n := range 150 {
		c := api.Config{Rate: n % 12, Chans: 1 + n%2, Crc: n%3 == 0}
		var b []byte
		for range 12 {
			switch d.roll(8) {
			case 0:
				other := c
				other.Rate = (c.Rate + 1) % 12
				b = append(b, d.bytes(other)...)
			case 1:
				other := c
				other.Chans = 3 - c.Chans
				b = append(b, d.bytes(other)...)
			case 2:
				other := c
				other.Crc = !c.Crc
				b = append(b, d.bytes(other)...)
			case 3:
				for range d.roll(30) {
					b = append(b, byte(d.roll(2)*(255-d.roll(2)*14)))
				}
			case 4:
				f := d.bytes(c)
				b = append(b, f[:d.roll(len(f))]...)
			case 5:
				f := d.bytes(c)
				f[d.roll(len(f))] ^= byte(1 << d.roll(8))
				b = append(b, f...)
			default:
				b = append(b, d.bytes(c)...)
			}
		}
		was := bytes.Clone(b)
		want := scan(c, b)
		got, e := sync.Scan(c, b)
		if e != api.OK || !same(got, want) {
			t.Fatal(n, places(got), places(want), e)
		}
		if !bytes.Equal(b, was) {
			t.Fatal(n, "written to")
		}
		end := 0
		for _, s := range got {
			if s.At < end {
				t.Error(n, "slots overlap")
			}
			end = s.At + s.Len
			// What stands behind a slot has the slots that it would have by itself.
			var behind []api.Slot
			for _, later := range got {
				if later.At >= end {
					later.At -= end
					behind = append(behind, later)
				}
			}
			if alone, _ := sync.Scan(c, b[end:]); !same(alone, behind) {
				t.Error(n, end)
			}
		}
		// Bytes ahead, none of which is 255, change nothing but places, where a frame stands first.
		if len(got) > 0 && got[0].At == 0 && !got[0].Lost {
			moved, _ := sync.Scan(c, append([]byte{0, 254, 241}, b...))
			for i := range moved {
				moved[i].At -= 3
			}
			if !same(moved, got) {
				t.Error(n, "bytes ahead")
			}
		}
	}
}

// TestHurt holds P26.3: of frames with sums, of which one is hurt behind its header, that one alone is lost.
func TestHurt(t *testing.T) {
	d := dice(7)
	for n := range 40 {
		c := api.Config{Rate: n % 12, Chans: 1 + n%2, Crc: true}
		var b []byte
		var want []api.Slot
		for range 5 {
			f := d.bytes(c)
			_, frame, _ := adts.Read(f)
			want = append(want, api.Slot{At: len(b), Len: len(f), Frame: frame})
			b = append(b, f...)
		}
		if got, e := sync.Scan(c, b); e != api.OK || !same(got, want) {
			t.Fatal(n, places(got), e)
		}
		for range 30 {
			which := d.roll(5)
			s := want[which]
			hurt := bytes.Clone(b)
			first, last := 8*(s.At+9), 8*(s.At+s.Len)
			if d.roll(3) == 0 {
				first, last = 8*(s.At+7), 8*(s.At+9)
			}
			at := first + d.roll(last-first)
			for i := at; i < min(at+16, last); i++ {
				if i == at || d.roll(2) == 1 {
					hurt[i/8] ^= 128 >> (i % 8)
				}
			}
			lost := slices.Clone(want)
			lost[which].Lost, lost[which].Frame = true, api.Frame{}
			if got, e := sync.Scan(c, hurt); e != api.OK || !same(got, lost) {
				t.Fatal(n, which, places(got), e)
			}
		}
	}
}

// TestNew holds that slots share no memory.
func TestNew(t *testing.T) {
	b := slices.Concat(eleven(), eleven())
	got, _ := sync.Scan(api.Config{Chans: 1}, b)
	got[0].Frame.Chans[0].Lines[0], got[0].Frame.Chans[0].Info.Groups[0] = 9, 9
	if again, _ := sync.Scan(api.Config{Chans: 1}, b); got[1].Frame.Chans[0].Lines[0] != 0 || got[1].Frame.Chans[0].Info.Groups[0] != 1 || again[0].Frame.Chans[0].Lines[0] != 0 {
		t.Error("shares")
	}
}
