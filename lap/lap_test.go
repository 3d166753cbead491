package lap_test

import (
	"math"
	"slices"
	"testing"

	"reedpipe/api"
	"reedpipe/block"
	"reedpipe/lap"
)

func some(n, most int, seed uint32) []int {
	out := make([]int, n)
	for i := range out {
		seed = seed*1664525 + 1013904223
		out[i] = int(seed>>1)%(2*most+1) - most
	}
	return out
}

func one(n, at, v int) []int {
	out := make([]int, n)
	out[at] = v
	return out
}

func same(a, b api.Lap) bool {
	return slices.Equal(a.Tail, b.Tail) && a.Seq == b.Seq && a.Shape == b.Shape
}

func TestNew(t *testing.T) {
	l := lap.New()
	if !same(l, api.Lap{Tail: make([]int, 256)}) || lap.Check(l) != api.OK {
		t.Error(l)
	}
	l.Tail[0] = 9
	if lap.New().Tail[0] != 0 {
		t.Error("shares")
	}
}

// odd is what overlaps that may not be.
func odd() []api.Lap {
	out := []api.Lap{{}, {Tail: make([]int, 255)}, {Tail: make([]int, 257)}, {Tail: make([]int, 256), Seq: 4}, {Tail: make([]int, 256), Seq: 255}, {Tail: make([]int, 256), Shape: 2}, {Tail: make([]int, 256), Shape: 255}}
	for _, v := range []int{1<<40 + 1, -1<<40 - 1, math.MaxInt, math.MinInt} {
		for _, at := range []int{0, 100, 255} {
			out = append(out, api.Lap{Tail: one(256, at, v)})
		}
	}
	return out
}

func TestCheck(t *testing.T) {
	for i, l := range odd() {
		if e := lap.Check(l); e != api.ErrBad {
			t.Error(i, e)
		}
		for _, n := range []int{0, 256} {
			if got, pcm, e := lap.Next(l, 9, 9, make([]int, n)); e != api.ErrBad || len(pcm) != 0 || !same(got, api.Lap{}) {
				t.Error(i, e)
			}
		}
	}
	for seq := uint8(0); seq < 4; seq++ {
		for shape := uint8(0); shape < 2; shape++ {
			for _, v := range []int{1 << 40, -1 << 40} {
				l := api.Lap{Tail: slices.Repeat([]int{v}, 256), Seq: seq, Shape: shape}
				if e := lap.Check(l); e != api.OK {
					t.Error(seq, shape, e)
				}
			}
		}
	}
}

// next is chapter 13's.
func next(l api.Lap, seq, shape uint8, lines []int) (api.Lap, []int) {
	y, _ := block.Synth(seq, l.Shape, shape, lines)
	var pcm []int
	for n, v := range l.Tail {
		v = (v + y[n] + 8) >> 4
		pcm = append(pcm, max(min(v, 32767), -32768))
	}
	return api.Lap{Tail: y[256:], Seq: seq, Shape: shape}, pcm
}

func TestNext(t *testing.T) {
	for seq := uint8(0); seq < 4; seq++ {
		for shape := uint8(0); shape < 2; shape++ {
			for was := uint8(0); was < 2; was++ {
				for i, most := range []int{0, 9, 1 << 21, api.MaxLine} {
					for _, tail := range []int{0, 900, 1 << 19, 1 << 40} {
						l := api.Lap{Tail: some(256, tail, 3), Seq: seq ^ 3, Shape: was}
						x := some(256, most, uint32(i))
						want, sound := next(l, seq, shape, x)
						got, pcm, e := lap.Next(l, seq, shape, x)
						if e != api.OK || !same(got, want) || !slices.Equal(pcm, sound) {
							t.Error(seq, shape, was, i, tail, e)
						}
						if lap.Check(got) != api.OK {
							t.Error(seq, shape, was, i, tail, "may not be")
						}
					}
				}
			}
		}
	}
	l := lap.New()
	for i, c := range []struct {
		seq, shape uint8
		x          []int
		e          api.Errno
	}{
		{0, 0, nil, api.ErrMany}, {0, 0, make([]int, 255), api.ErrMany}, {2, 0, make([]int, 32), api.ErrMany}, {0, 0, make([]int, 512), api.ErrMany},
		{4, 0, nil, api.ErrArg}, {0, 2, nil, api.ErrArg}, {255, 255, nil, api.ErrArg},
		{0, 0, one(256, 9, 1<<28), api.ErrArg}, {0, 0, one(256, 9, math.MinInt), api.ErrArg},
	} {
		if got, pcm, e := lap.Next(l, c.seq, c.shape, c.x); e != c.e || len(pcm) != 0 || !same(got, api.Lap{}) {
			t.Error(i, e)
		}
	}
}

// TestMemory holds P13.3.
func TestMemory(t *testing.T) {
	l, x := api.Lap{Tail: some(256, 99, 1)}, some(256, 1<<20, 2)
	tail, lines := slices.Clone(l.Tail), slices.Clone(x)
	got, pcm, _ := lap.Next(l, 1, 1, x)
	want := slices.Clone(got.Tail)
	clear(pcm)
	if !slices.Equal(got.Tail, want) {
		t.Error("shares")
	}
	clear(got.Tail)
	_ = append(got.Tail[:0], make([]int, cap(got.Tail))...)
	if !slices.Equal(l.Tail, tail) || !slices.Equal(x, lines) {
		t.Error("written to")
	}
}

// TestForgets holds that what comes behind a frame hangs on that frame alone.
func TestForgets(t *testing.T) {
	x := some(256, 1<<22, 6)
	a, _, _ := lap.Next(api.Lap{Tail: some(256, 1<<30, 1), Seq: 2}, 3, 1, x)
	b, _, _ := lap.Next(api.Lap{Tail: some(256, 1<<40, 2), Seq: 1}, 3, 1, x)
	if !same(a, b) {
		t.Error("unlike tails")
	}
	_, pa, _ := lap.Next(a, 0, 0, x)
	_, pb, _ := lap.Next(b, 0, 0, x)
	if !slices.Equal(pa, pb) {
		t.Error("unlike samples")
	}
}

// sound is n samples: noise, a square wave at full, silence, or single peaks.
func sound(kind, n int) []int {
	out := some(n, 32767, uint32(kind))
	for i := range out {
		switch kind {
		case 1:
			out[i] = 32767 - 65535*(i/50%2)
		case 2:
			out[i] = 0
		case 3:
			out[i] = -32768 * ((i*i + 1) % 97 / 96)
		}
	}
	return out
}

// TestThereAndBack holds the second half of P13.4, and W5, over walks of sequences that may follow, and all shapes.
func TestThereAndBack(t *testing.T) {
	for kind := 0; kind < 8; kind++ {
		frames := 24
		pcm := sound(kind, 256*(frames+1))
		l := lap.New()
		seq, was := uint8(0), uint8(0)
		for f := 0; f < frames; f++ {
			turn := uint8(1 + (f*f+kind*3)/2%2)
			if seq == api.OnlyLong || seq == api.Stop {
				seq = turn - 1
			} else {
				seq = turn + 1
			}
			shape := uint8((f + f/3 + kind) % 2)
			x, e := block.Analyse(seq, was, shape, pcm[256*f:256*f+512])
			if e != api.OK {
				t.Fatal(e)
			}
			var out []int
			l, out, e = lap.Next(l, seq, shape, x)
			if e != api.OK {
				t.Fatal(e)
			}
			was = shape
			if f == 0 {
				continue
			}
			for n, v := range out {
				if d := v - pcm[256*f+n]; d > 2 || d < -2 {
					t.Fatal(kind, f, n, v, pcm[256*f+n])
				}
			}
		}
	}
}
