package band_test

import (
	"math"
	"slices"
	"testing"

	"reedpipe/api"
	"reedpipe/band"
)

// offsets are chapter 6's, told without a loop back.
func offsets(rate int, short bool, at int) []int {
	lines, unit := 256, 256
	if short {
		lines, unit = 32, 64
	}
	k := 3 + int(math.Floor(float64(11-rate)/2))
	q := at * k / unit
	if at+4+4*q >= lines {
		return []int{at, lines}
	}
	return append([]int{at}, offsets(rate, short, at+4+4*q)...)
}

func TestOffsets(t *testing.T) {
	for i, c := range []struct {
		rate  int
		short bool
		want  []int
	}{
		{11, true, []int{0, 4, 8, 12, 16, 20, 24, 32}},
		{0, true, []int{0, 4, 8, 16, 28, 32}},
		{0, false, []int{0, 4, 8, 12, 16, 20, 24, 28, 32, 40, 48, 56, 64, 76, 88, 100, 116, 132, 152, 172, 196, 224, 256}},
	} {
		if got, e := band.Offsets(c.rate, c.short); !slices.Equal(got, c.want) || e != api.OK {
			t.Error(i, got, e)
		}
	}
	for rate := 0; rate <= 11; rate++ {
		for _, short := range []bool{false, true} {
			want := offsets(rate, short, 0)
			got, e := band.Offsets(rate, short)
			if !slices.Equal(got, want) || e != api.OK {
				t.Error(rate, short, got, e)
			}
			if n, e := band.Many(rate, short); n != len(want)-1 || e != api.OK {
				t.Error(rate, short, n, e)
			}
			for b := range want[1:] {
				for line := want[b]; line < want[b+1]; line++ {
					if got, e := band.Of(rate, short, line); got != b || e != api.OK {
						t.Error(rate, short, line, got, e)
					}
				}
			}
			for _, line := range []int{-1, want[len(want)-1], 256, math.MinInt, math.MaxInt} {
				if got, e := band.Of(rate, short, line); got != 0 || e != api.ErrArg {
					t.Error(rate, short, line, got, e)
				}
			}
		}
	}
}

func TestExamples(t *testing.T) {
	if b, e := band.Of(0, true, 15); b != 2 || e != api.OK {
		t.Error(b, e)
	}
	if b, e := band.Of(0, true, 32); b != 0 || e != api.ErrArg {
		t.Error(b, e)
	}
	if n, e := band.Many(11, false); n != 40 || e != api.OK {
		t.Error(n, e)
	}
}

func TestRates(t *testing.T) {
	for _, rate := range []int{-1, 12, math.MinInt, math.MaxInt} {
		for _, short := range []bool{false, true} {
			if got, e := band.Offsets(rate, short); len(got) != 0 || e != api.ErrArg {
				t.Error(rate, got, e)
			}
			if n, e := band.Many(rate, short); n != 0 || e != api.ErrArg {
				t.Error(rate, n, e)
			}
			for _, line := range []int{-1, 0, 300} {
				if n, e := band.Of(rate, short, line); n != 0 || e != api.ErrArg {
					t.Error(rate, n, e)
				}
			}
		}
	}
}

// TestNew holds P6.2.
func TestNew(t *testing.T) {
	a, _ := band.Offsets(3, false)
	want := slices.Clone(a)
	clear(a)
	if b, _ := band.Offsets(3, false); !slices.Equal(b, want) {
		t.Error(b)
	}
}

// TestFollows holds P6.3.
func TestFollows(t *testing.T) {
	for _, c := range []struct {
		short       bool
		lines, most int
	}{{false, 256, 40}, {true, 32, 15}} {
		many := 0
		for rate := 0; rate <= 11; rate++ {
			o, _ := band.Offsets(rate, c.short)
			if o[0] != 0 || o[len(o)-1] != c.lines || len(o)-1 > c.most || len(o)-1 < many {
				t.Error(rate, o)
			}
			many = len(o) - 1
			wide := 0
			for b := range o[1:] {
				w := o[b+1] - o[b]
				if w < 4 || w%4 != 0 || w < wide && b != many-1 {
					t.Error(rate, b, o)
				}
				wide = w
			}
		}
	}
}
