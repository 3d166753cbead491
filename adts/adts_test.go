package adts_test

import (
	"bytes"
	"math"
	"slices"
	"testing"

	"reedpipe/adts"
	"reedpipe/api"
	"reedpipe/bits"
	"reedpipe/crc"
	"reedpipe/lane"
	"reedpipe/raw"
)

func zero(rate, most int) api.Chan {
	c, _ := lane.Zero(rate, api.Info{Max: most, Groups: []int{1}})
	return c
}

// loud is a channel of book 1, with lines of 1 here and there, told by a seed.
func loud(rate, most int, seed uint32) api.Chan {
	c := zero(rate, most)
	c.Sections[0][0].Book, c.Gain = 1, 50
	for b := range c.Steps[0] {
		c.Steps[0][b] = 50 + b
	}
	for n := range 4 * most {
		seed = seed*1664525 + 1013904223
		c.Lines[n] = int(seed>>8)%3 - 1
	}
	return c
}

// frames are some that may be, each with its config.
func frames() (l []api.Frame, c []api.Config) {
	for rate := 0; rate <= 11; rate++ {
		for n := range 4 {
			one := api.Frame{Chans: []api.Chan{loud(rate, 1+3*n, uint32(rate))}}
			two := api.Frame{Chans: []api.Chan{zero(rate, n), loud(rate, 2+2*n, uint32(n))}}
			if n == 1 {
				two = api.Frame{Chans: []api.Chan{loud(rate, 5, 1), loud(rate, 5, 2)}, Common: true, Mask: 2}
			}
			if n == 2 {
				one.Fill, two.Fill = []byte{1, 255, 0}, make([]byte, 100)
			}
			l = append(l, one, two)
			c = append(c, api.Config{Rate: rate, Chans: 1, Crc: n%2 == 0}, api.Config{Rate: rate, Chans: 2, Crc: n%2 == 1})
		}
	}
	return l, c
}

func digits(n, size int) []byte {
	b, _ := bits.Put(nil, n, size)
	return b
}

// plain is a frame with its header as chapter 25 tells it.
func plain(c api.Config, full int, f api.Frame) []byte {
	frame, _ := raw.Write(c, f)
	noSum, size := 1, 7
	if c.Crc {
		noSum, size = 0, 9
	}
	b := slices.Concat(digits(0xfff, 12), digits(0, 3), digits(noSum, 1), digits(1, 2), digits(c.Rate, 4), digits(0, 1), digits(c.Chans, 3), digits(0, 4), digits(size+len(frame), 13), digits(full, 11), digits(0, 2))
	spread, _ := bits.Unpack(frame)
	if c.Crc {
		sum, _ := crc.Of(slices.Concat(b, spread))
		b = append(b, digits(sum, 16)...)
	}
	out, _ := bits.Pack(slices.Concat(b, spread))
	return out
}

func quiet() (api.Config, api.Frame) {
	return api.Config{Chans: 1}, api.Frame{Chans: []api.Chan{zero(0, 0)}}
}

func TestExamples(t *testing.T) {
	c, f := quiet()
	b, e := adts.Write(c, 5, f)
	if e != api.OK || !bytes.Equal(b, []byte{255, 241, 64, 64, 1, 96, 20, 0, 0, 0, 7}) {
		t.Error(b, e)
	}
	if h, e := adts.Head(b); e != api.OK || h != (api.Head{Chans: 1, Len: 11, Full: 5}) {
		t.Error(h, e)
	}
	if adts.Size(true) != 9 || adts.Size(false) != 7 {
		t.Error("sizes")
	}
	c.Crc = true
	if b, e := adts.Write(c, 5, f); e != api.OK || len(b) != 13 {
		t.Error(b, e)
	}
}

func TestFrames(t *testing.T) {
	l, configs := frames()
	for n, f := range l {
		c := configs[n]
		full := n * 2047 / (len(l) - 1)
		want := plain(c, full, f)
		got, e := adts.Write(c, full, f)
		if e != api.OK || !bytes.Equal(got, want) {
			t.Fatal(n, got, want, e)
		}
		head := api.Head{Rate: c.Rate, Chans: c.Chans, Crc: c.Crc, Len: len(want), Full: full}
		for _, b := range [][]byte{want, want[:adts.Size(c.Crc)], append(slices.Clone(want), 1, 2, 3)} {
			if h, e := adts.Head(b); e != api.OK || h != head {
				t.Error(n, h, e)
			}
		}
		h, back, e := adts.Read(want)
		if e != api.OK || h != head || !raw.Same(back, f) {
			t.Error(n, h, e)
		}
		for cut := range want {
			if h, back, e := adts.Read(want[:cut]); e != api.ErrEnd || h != (api.Head{}) || !raw.Same(back, api.Frame{}) {
				t.Error(n, cut, e)
			}
		}
		if h, back, e := adts.Read(append(slices.Clone(want), 0)); e != api.ErrBad || h != (api.Head{}) || !raw.Same(back, api.Frame{}) {
			t.Error(n, e)
		}
	}
}

func TestWriteRefuses(t *testing.T) {
	c, f := quiet()
	big := f
	big.Fill = make([]byte, 269)
	for n, w := range []struct {
		c    api.Config
		full int
		f    api.Frame
		e    api.Errno
	}{
		{c, 2048, f, api.ErrArg}, {c, -1, f, api.ErrArg}, {c, math.MaxInt, f, api.ErrArg}, {c, math.MinInt, f, api.ErrArg},
		{c, 2048, api.Frame{}, api.ErrBad}, {c, 0, api.Frame{}, api.ErrBad}, {c, -1, big, api.ErrFull}, {c, 0, big, api.ErrFull},
		{api.Config{}, 0, f, api.ErrArg}, {api.Config{Chans: 3}, 0, f, api.ErrArg}, {api.Config{Chans: 1, Rate: 12}, -1, api.Frame{}, api.ErrArg}, {api.Config{Chans: 2}, 0, f, api.ErrBad},
	} {
		if b, e := adts.Write(w.c, w.full, w.f); e != w.e || len(b) != 0 {
			t.Error(n, b, e)
		}
	}
	if _, e := adts.Write(c, 2047, f); e != api.OK {
		t.Error(e)
	}
}

// header are the bytes of one, of these fields; most of them may not be.
func header(n ...int) []byte {
	var b []byte
	for i, size := range []int{12, 1, 2, 1, 2, 4, 1, 3, 1, 1, 1, 1, 13, 11, 2} {
		b = append(b, digits(n[i], size)...)
	}
	out, _ := bits.Pack(b)
	return out
}

func TestHead(t *testing.T) {
	right := []int{0xfff, 0, 0, 1, 1, 5, 0, 2, 0, 0, 0, 0, 100, 2047, 0}
	if h, e := adts.Head(header(right...)); e != api.OK || h != (api.Head{Rate: 5, Chans: 2, Len: 100, Full: 2047}) {
		t.Error(h, e)
	}
	for _, change := range [][2]int{{0, 0xffe}, {0, 0x7ff}, {0, 0}, {1, 1}, {2, 1}, {2, 2}, {4, 0}, {4, 2}, {4, 3}, {5, 12}, {5, 15}, {6, 1}, {7, 0}, {7, 3}, {7, 4}, {7, 7}, {8, 1}, {9, 1}, {10, 1}, {11, 1}, {14, 1}, {14, 2}} {
		n := slices.Clone(right)
		n[change[0]] = change[1]
		if h, e := adts.Head(header(n...)); e != api.ErrBad || h != (api.Head{}) {
			t.Error(change, h, e)
		}
		if h, f, e := adts.Read(append(header(n...), make([]byte, 93)...)); e != api.ErrBad || h != (api.Head{}) || !raw.Same(f, api.Frame{}) {
			t.Error(change, h, e)
		}
	}
	for chans := 1; chans <= 2; chans++ {
		for noSum, size := range []int{9, 7} {
			for length := 0; length < 8192; length++ {
				n := slices.Clone(right)
				n[3], n[7], n[12] = noSum, chans, length
				b := append(header(n...), 1, 2)
				h, e := adts.Head(b[:size])
				if may := length > size && length <= size+192*chans; may != (e == api.OK) || !may && (e != api.ErrBad || h != (api.Head{})) || may && h.Len != length {
					t.Fatal(chans, noSum, length, h, e)
				}
			}
		}
	}
	sum := slices.Clone(right)
	sum[3] = 0
	for cut := range 9 {
		if h, e := adts.Head(append(header(sum...), 1, 2)[:cut]); e != api.ErrEnd || h != (api.Head{}) {
			t.Error(cut, h, e)
		}
		if h, e := adts.Head(make([]byte, cut)); e != api.ErrEnd || h != (api.Head{}) {
			t.Error(cut, h, e)
		}
	}
	for cut := range 7 {
		if h, e := adts.Head(header(right...)[:cut]); e != api.ErrEnd || h != (api.Head{}) {
			t.Error(cut, h, e)
		}
	}
	if h, e := adts.Head(make([]byte, 9)); e != api.ErrBad || h != (api.Head{}) {
		t.Error(h, e)
	}
	if h, e := adts.Head(bytes.Repeat([]byte{255}, 7)); e != api.ErrBad || h != (api.Head{}) {
		t.Error(h, e)
	}
}

// TestReadRaw holds what of Read's errors comes of the frame.
func TestReadRaw(t *testing.T) {
	c, f := quiet()
	b, _ := adts.Write(c, 0, f)
	for last, want := range map[byte]api.Errno{7: api.OK, 6: api.ErrEnd, 5: api.ErrBad} {
		b[10] = last
		if h, back, e := adts.Read(b); e != want || e != api.OK && (h != (api.Head{}) || !raw.Same(back, api.Frame{})) {
			t.Error(last, h, e)
		}
	}
	n := []int{0xfff, 0, 0, 1, 1, 0, 0, 1, 0, 0, 0, 0, 8, 0, 0}
	if h, _, e := adts.Read(append(header(n...), 0)); e != api.ErrEnd || h != (api.Head{}) {
		t.Error(h, e)
	}
	if _, _, e := adts.Read(append(header(n...), 32)); e != api.ErrBad {
		t.Error(e)
	}
	// A sum that is not right goes ahead of a frame that may not be.
	n[3], n[12] = 0, 10
	if h, _, e := adts.Read(append(header(n...), 1, 2, 32)); e != api.ErrSum || h != (api.Head{}) {
		t.Error(h, e)
	}
}

// TestSums holds P25.4: bits turned among 16, in the sum, or behind it, are told.
func TestSums(t *testing.T) {
	l, configs := frames()
	for n, f := range l {
		if !configs[n].Crc {
			continue
		}
		b, _ := adts.Write(configs[n], 77, f)
		spread, _ := bits.Unpack(b)
		turned := func(from, to int) {
			for at := from; at < to; at++ {
				for _, mask := range []int{1, 3, 0x8001, 0xffff, 0x5a5b, 0xc0de} {
					c := slices.Clone(spread)
					for i := 0; i < 16 && at+i < to; i++ {
						c[at+i] ^= byte(mask >> i & 1)
					}
					if bytes.Equal(c, spread) {
						continue
					}
					packed, _ := bits.Pack(c)
					if h, back, e := adts.Read(packed); e != api.ErrSum || h != (api.Head{}) || !raw.Same(back, api.Frame{}) {
						t.Fatal(n, at, mask, e)
					}
				}
			}
		}
		turned(56, 72)
		turned(72, len(spread))
		// The header is summed up, too: how full is told there.
		packed := slices.Clone(b)
		packed[6] ^= 4
		if _, _, e := adts.Read(packed); e != api.ErrSum {
			t.Error(n, e)
		}
	}
}

// TestMemory holds P25.3.
func TestMemory(t *testing.T) {
	l, configs := frames()
	for n, f := range l {
		was := raw.Twin(f)
		b, _ := adts.Write(configs[n], 9, f)
		sent := bytes.Clone(b)
		_, back, _ := adts.Read(b)
		back.Chans[0].Lines[0] = 99
		adts.Head(b)
		if !raw.Same(f, was) || !bytes.Equal(b, sent) {
			t.Error(n)
		}
		clear(b)
		if again, _ := adts.Write(configs[n], 9, f); !bytes.Equal(again, sent) {
			t.Error(n)
		}
	}
}
