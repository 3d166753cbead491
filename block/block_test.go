package block_test

import (
	"math"
	"slices"
	"testing"

	"reedpipe/api"
	"reedpipe/block"
	"reedpipe/mdct"
	"reedpipe/window"
)

func half(shape uint8, short, falls bool) []int {
	h, _ := window.Half(shape, short)
	if falls {
		slices.Reverse(h)
	}
	return h
}

func flat(v int) []int { return slices.Repeat([]int{v}, 112) }

// frame is the window of a frame with one, by chapter 12's table.
func frame(seq, was, shape uint8) []int {
	switch seq {
	case api.OnlyLong:
		return slices.Concat(half(was, false, false), half(shape, false, true))
	case api.Start:
		return slices.Concat(half(was, false, false), flat(1<<22), half(shape, true, true), flat(0))
	}
	return slices.Concat(flat(0), half(was, true, false), flat(1<<22), half(shape, false, true))
}

// placed are a frame's windows, each with where it lies.
type placed struct {
	at int
	w  []int
}

func windows(seq, was, shape uint8) []placed {
	if seq != api.Shorts {
		return []placed{{0, frame(seq, was, shape)}}
	}
	var out []placed
	for i := 0; i < 8; i++ {
		first := shape
		if i == 0 {
			first = was
		}
		out = append(out, placed{112 + 32*i, slices.Concat(half(first, true, false), half(shape, true, true))})
	}
	return out
}

func off(n, bits int) int { return (n + 1<<(bits-1)) >> bits }

func analyse(seq, was, shape uint8, pcm []int) []int {
	var out []int
	for _, p := range windows(seq, was, shape) {
		var z []int
		for n, v := range p.w {
			z = append(z, off(pcm[p.at+n]*v, 14))
		}
		x, _ := mdct.Forward(z)
		out = append(out, x...)
	}
	return out
}

func synth(seq, was, shape uint8, lines []int) []int {
	out := make([]int, 512)
	for _, p := range windows(seq, was, shape) {
		m := len(p.w) / 2
		y, _ := mdct.Inverse(lines[:m])
		lines = lines[m:]
		for n, v := range p.w {
			out[p.at+n] += off(y[n]*v, 26)
		}
	}
	return out
}

func some(n, low, high int, seed uint32) []int {
	out := make([]int, n)
	for i := range out {
		seed = seed*1664525 + 1013904223
		out[i] = low + int(seed>>1)%(high-low+1)
	}
	return out
}

func one(n, at, v int) []int {
	out := make([]int, n)
	out[at] = v
	return out
}

// each goes over all sequences and shapes that may be.
func each(f func(seq, was, shape uint8)) {
	for i := 0; i < 16; i++ {
		f(uint8(i/4), uint8(i/2%2), uint8(i%2))
	}
}

// odd goes over some that may not.
func odd(f func(seq, was, shape uint8)) {
	for _, v := range []uint8{2, 3, 4, 128, 255} {
		for _, seq := range []uint8{0, 1, 2, 3} {
			f(seq, v, 0)
			f(seq, 0, v)
			f(seq, v, v)
		}
		if v > 3 {
			f(v, 0, 0)
			f(v, 1, 1)
		}
	}
}

func TestWindow(t *testing.T) {
	each(func(seq, was, shape uint8) {
		got, e := block.Window(seq, was, shape)
		if seq == api.Shorts {
			if e != api.ErrArg || len(got) != 0 {
				t.Error(was, shape, e)
			}
			return
		}
		if e != api.OK || !slices.Equal(got, frame(seq, was, shape)) {
			t.Error(seq, was, shape, got, e)
		}
	})
	odd(func(seq, was, shape uint8) {
		if got, e := block.Window(seq, was, shape); e != api.ErrArg || len(got) != 0 {
			t.Error(seq, was, shape, e)
		}
	})
	if w, _ := block.Window(api.Start, 0, 0); w[300] != 1<<22 || w[511] != 0 {
		t.Error(w[300], w[511])
	}
}

func TestAnalyse(t *testing.T) {
	each(func(seq, was, shape uint8) {
		for i, pcm := range [][]int{
			make([]int, 512), some(512, -32768, 32767, 7), slices.Repeat([]int{-32768}, 512), slices.Repeat([]int{32767}, 512), some(512, -9, 9, 3), one(512, 130, 32767), one(512, 255, -1),
		} {
			got, e := block.Analyse(seq, was, shape, pcm)
			if e != api.OK || !slices.Equal(got, analyse(seq, was, shape, pcm)) {
				t.Error(seq, was, shape, i, got, e)
			}
		}
		for _, n := range []int{0, 64, 256, 511, 513} {
			if got, e := block.Analyse(seq, was, shape, slices.Repeat([]int{99999}, n)); e != api.ErrMany || len(got) != 0 {
				t.Error(seq, n, e)
			}
		}
		for _, v := range []int{32768, -32769, math.MinInt, math.MaxInt} {
			for _, at := range []int{0, 300, 511} {
				if got, e := block.Analyse(seq, was, shape, one(512, at, v)); e != api.ErrArg || len(got) != 0 {
					t.Error(seq, at, v, e)
				}
			}
		}
	})
	odd(func(seq, was, shape uint8) {
		for _, n := range []int{0, 512} {
			if got, e := block.Analyse(seq, was, shape, make([]int, n)); e != api.ErrArg || len(got) != 0 {
				t.Error(seq, was, shape, e)
			}
		}
	})
}

func TestSynth(t *testing.T) {
	most := api.MaxLine
	each(func(seq, was, shape uint8) {
		for i, x := range [][]int{
			make([]int, 256), some(256, -most, most, 7), slices.Repeat([]int{-most}, 256), slices.Repeat([]int{most}, 256), some(256, -999, 999, 3), one(256, 40, most), one(256, 255, -1),
		} {
			got, e := block.Synth(seq, was, shape, x)
			if e != api.OK || !slices.Equal(got, synth(seq, was, shape, x)) {
				t.Error(seq, was, shape, i, got, e)
			}
		}
		for _, n := range []int{0, 32, 255, 257, 512} {
			if got, e := block.Synth(seq, was, shape, slices.Repeat([]int{1 << 28}, n)); e != api.ErrMany || len(got) != 0 {
				t.Error(seq, n, e)
			}
		}
		for _, v := range []int{1 << 28, -1 << 28, math.MinInt, math.MaxInt} {
			for _, at := range []int{0, 100, 255} {
				if got, e := block.Synth(seq, was, shape, one(256, at, v)); e != api.ErrArg || len(got) != 0 {
					t.Error(seq, at, v, e)
				}
			}
		}
	})
	odd(func(seq, was, shape uint8) {
		for _, n := range []int{0, 256} {
			if got, e := block.Synth(seq, was, shape, make([]int, n)); e != api.ErrArg || len(got) != 0 {
				t.Error(seq, was, shape, e)
			}
		}
	})
}

// TestMemory holds P12.3.
func TestMemory(t *testing.T) {
	pcm, x := some(512, -100, 100, 1), some(256, -100, 100, 2)
	wasP, wasX := slices.Clone(pcm), slices.Clone(x)
	each(func(seq, was, shape uint8) {
		a, _ := block.Analyse(seq, was, shape, pcm)
		b, _ := block.Synth(seq, was, shape, x)
		w, _ := block.Window(seq, was, shape)
		clear(a)
		clear(b)
		clear(w)
	})
	if w, _ := block.Window(0, 0, 0); !slices.Equal(pcm, wasP) || !slices.Equal(x, wasX) || w[255] == 0 {
		t.Error("written to")
	}
}

// TestFollows holds P12.4.
func TestFollows(t *testing.T) {
	each(func(seq, was, shape uint8) {
		pcm := some(512, -32768, 32767, 5)
		x, _ := block.Analyse(seq, was, shape, pcm)
		if _, e := block.Synth(seq, was, shape, x); e != api.OK {
			t.Error(seq, e)
		}
		bare := make([]bool, 512)
		for i := range bare {
			bare[i] = true
		}
		for _, p := range windows(seq, was, shape) {
			for n, v := range p.w {
				bare[p.at+n] = bare[p.at+n] && v == 0
			}
		}
		for i := range pcm {
			if bare[i] {
				pcm[i] = -pcm[i] / 2
			}
		}
		if again, _ := block.Analyse(seq, was, shape, pcm); !slices.Equal(again, x) {
			t.Error(seq, "hangs on what is under no window")
		}
		if seq == api.Shorts {
			return
		}
		for next := uint8(0); next < 4; next++ {
			if next == api.Shorts || (seq == api.Start) != (next == api.Stop) {
				continue
			}
			a, _ := block.Window(seq, was, shape)
			b, _ := block.Window(next, shape, was)
			for n := 0; n < 256; n++ {
				if d := a[256+n]*a[256+n] + b[n]*b[n] - 1<<44; d > 1<<25 || d < -1<<25 {
					t.Error(seq, next, n, d)
				}
			}
		}
	})
}
