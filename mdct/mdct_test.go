package mdct_test

import (
	"math"
	"slices"
	"testing"

	"reedpipe/api"
	"reedpipe/mdct"
	"reedpipe/trig"
)

// some are numbers from -most to most without a plain pattern.
func some(n, most int, seed uint32) []int {
	out := make([]int, n)
	for i := range out {
		seed = seed*1664525 + 1013904223
		out[i] = int(seed>>1)%(2*most+1) - most
	}
	return out
}

func full(n, v int) []int { return slices.Repeat([]int{v}, n) }

func one(n, at, v int) []int {
	out := make([]int, n)
	out[at] = v
	return out
}

func cosine(n, k, m int) int {
	s := 1
	if m == 32 {
		s = 8
	}
	return trig.Cos((2*n + 1 + m) * (2*k + 1) * s)
}

func off(n, bits int) int { return (n + 1<<(bits-1)) >> bits }

func forward(z []int) []int {
	m := len(z) / 2
	out := make([]int, m)
	for k := range out {
		for n, v := range z {
			out[k] += v * cosine(n, k, m)
		}
		out[k] = off(out[k], 33)
	}
	return out
}

func inverse(x []int) []int {
	m := len(x)
	out := make([]int, 2*m)
	for n := range out {
		for k, v := range x {
			out[n] += v * cosine(n, k, m)
		}
		if m == 32 {
			out[n] = off(out[n], 23)
		} else {
			out[n] = off(out[n], 26)
		}
	}
	return out
}

// loudest are samples that make one line as great as may be.
func loudest(m, k, most int) []int {
	out := make([]int, 2*m)
	for n := range out {
		out[n] = most
		if cosine(n, k, m) < 0 {
			out[n] = -most
		}
	}
	return out
}

func TestForward(t *testing.T) {
	for i, z := range [][]int{
		make([]int, 512), make([]int, 64), full(512, 1<<23), full(64, -1<<23), some(512, 1<<23, 1), some(64, 1<<23, 2), some(512, 3000, 3), some(64, 300, 4), some(512, 1<<15, 5),
		one(512, 0, 1<<23), one(512, 511, -1<<23), one(64, 33, 8000000), one(512, 255, 7), loudest(256, 3, 1<<23), loudest(32, 31, 1<<23),
	} {
		got, e := mdct.Forward(z)
		if e != api.OK || !slices.Equal(got, forward(z)) {
			t.Error(i, got, e)
		}
	}
}

func TestInverse(t *testing.T) {
	most := api.MaxLine
	loud := func(m, n int) []int {
		out := make([]int, m)
		for k := range out {
			out[k] = most
			if cosine(n, k, m) < 0 {
				out[k] = -most
			}
		}
		return out
	}
	for i, x := range [][]int{
		make([]int, 256), make([]int, 32), full(256, most), full(32, -most), full(256, -most), some(256, most, 1), some(32, most, 2), some(256, 999, 3), some(32, 99, 4),
		one(256, 0, most), one(256, 255, -most), one(32, 31, 5), one(32, 0, most), loud(256, 300), loud(32, 40), loud(256, 0),
	} {
		got, e := mdct.Inverse(x)
		if e != api.OK || !slices.Equal(got, inverse(x)) {
			t.Error(i, got, e)
		}
	}
}

func TestRefuses(t *testing.T) {
	for n := 0; n <= 600; n++ {
		want := api.ErrMany
		if n == 512 || n == 64 {
			want = api.OK
		}
		if got, e := mdct.Forward(make([]int, n)); e != want || e != api.OK && len(got) != 0 {
			t.Error(n, len(got), e)
		}
		want = api.ErrMany
		if n == 256 || n == 32 {
			want = api.OK
		}
		if got, e := mdct.Inverse(make([]int, n)); e != want || e != api.OK && len(got) != 0 {
			t.Error(n, len(got), e)
		}
	}
	for _, v := range []int{1<<23 + 1, -1<<23 - 1, math.MaxInt, math.MinInt} {
		for _, n := range []int{512, 64, 63, 511} {
			for _, at := range []int{0, n / 2, n - 1} {
				want := api.ErrArg
				if n%64 != 0 {
					want = api.ErrMany
				}
				if got, e := mdct.Forward(one(n, at, v)); e != want || len(got) != 0 {
					t.Error(n, at, v, e)
				}
			}
		}
	}
	for _, v := range []int{1 << 28, -1 << 28, math.MaxInt, math.MinInt} {
		for _, n := range []int{256, 32, 255, 31} {
			for _, at := range []int{0, n / 2, n - 1} {
				want := api.ErrArg
				if n%32 != 0 {
					want = api.ErrMany
				}
				if got, e := mdct.Inverse(one(n, at, v)); e != want || len(got) != 0 {
					t.Error(n, at, v, e)
				}
			}
		}
	}
}

// TestMemory holds P11.3.
func TestMemory(t *testing.T) {
	z, x := some(64, 1<<20, 8), some(32, 1<<20, 9)
	wasZ, wasX := slices.Clone(z), slices.Clone(x)
	a, _ := mdct.Forward(z)
	b, _ := mdct.Inverse(x)
	clear(a)
	clear(b)
	if !slices.Equal(z, wasZ) || !slices.Equal(x, wasX) {
		t.Error("written to")
	}
}

// TestBack holds P11.4.
func TestBack(t *testing.T) {
	for seed := uint32(0); seed < 12; seed++ {
		m := 256
		if seed%2 == 1 {
			m = 32
		}
		z := some(2*m, 1<<23>>(seed/2*3), seed)
		x, _ := mdct.Forward(z)
		y, _ := mdct.Inverse(x)
		for n := range z {
			want := z[n]
			if n < m {
				want -= z[m-1-n]
			} else {
				want += z[3*m-1-n]
			}
			if d := y[n] - want; d > 512 || d < -512 {
				t.Error(seed, n, d)
			}
			if n >= m && y[n] != y[3*m-1-n] {
				t.Error(seed, n, "not the same backward")
			}
			if n < m && y[n]+y[m-1-n] != 0 && y[n]+y[m-1-n] != 1 {
				t.Error(seed, n, "not against one another")
			}
		}
	}
}
