package noise_test

import (
	"math"
	"math/big"
	"slices"
	"testing"

	"reedpipe/api"
	"reedpipe/noise"
	"reedpipe/power"
)

// band is chapter 16's, in long numbers.
func band(seed uint32, step, many int) []int {
	x := uint64(seed)
	var draws []int64
	sum := new(big.Int)
	for n := 0; n < many; n++ {
		x = (x*1664525 + 1013904223) % (1 << 32)
		v := int64(x/65536) - 32768
		draws = append(draws, v)
		sum.Add(sum, big.NewInt(v*v))
	}
	d := sum.Mul(sum, big.NewInt(65536))
	d.Sqrt(d)
	a, _ := power.Line(1, min(step, 255))
	var out []int
	for _, v := range draws {
		if d.Sign() == 0 {
			out = append(out, 0)
			continue
		}
		n := big.NewInt(512 * v * int64(a))
		n.Add(n, d)
		// Div rounds down, as the divisor is above 0.
		out = append(out, int(n.Div(n, new(big.Int).Lsh(d, 1)).Int64()))
	}
	return out
}

func TestSeed(t *testing.T) {
	for _, gain := range []int{0, 1, 100, 255} {
		for window := 0; window <= 7; window++ {
			for _, b := range []int{0, 1, 40, 511} {
				want := new(big.Int).Mul(big.NewInt(int64(4096*gain+512*window+b)), big.NewInt(2654435761))
				want.And(want, big.NewInt(1<<32-1))
				if got, e := noise.Seed(gain, window, b); e != api.OK || uint64(got) != want.Uint64() {
					t.Error(gain, window, b, got, e)
				}
			}
		}
	}
	for i, c := range [][3]int{{256, 0, 0}, {-1, 0, 0}, {0, 8, 0}, {0, -1, 0}, {0, 0, 512}, {0, 0, -1}, {math.MaxInt, 0, 0}, {0, math.MinInt, 0}, {0, 0, math.MaxInt}, {-1, -1, -1}} {
		if got, e := noise.Seed(c[0], c[1], c[2]); e != api.ErrArg || got != 0 {
			t.Error(i, got, e)
		}
	}
	if got, e := noise.Seed(0, 0, 1); got != 2654435761 || e != api.OK {
		t.Error(got, e)
	}
}

// silent is a seed whose first draw is 0.
func silent() uint32 {
	for seed := uint32(0); ; seed++ {
		if (seed*1664525+1013904223)>>16 == 32768 {
			return seed
		}
	}
}

func TestBand(t *testing.T) {
	for i, seed := range []uint32{0, 1, 9, 2654435761, math.MaxUint32, silent()} {
		for _, step := range []int{0, 1, 2, 3, 60, 99, 150, 220, 254, 255, 256, 300, 511} {
			for _, many := range []int{0, 1, 2, 4, 32, 77, 256} {
				if got, e := noise.Band(seed, step, many); e != api.OK || !slices.Equal(got, band(seed, step, many)) {
					t.Error(i, step, many, got, e)
				}
			}
		}
	}
	if got, e := noise.Band(silent(), 255, 1); e != api.OK || !slices.Equal(got, []int{0}) {
		t.Error(got, e)
	}
	if got, e := noise.Band(9, 100, 0); e != api.OK || len(got) != 0 {
		t.Error(got, e)
	}
	for i, c := range []struct {
		step, many int
		e          api.Errno
	}{
		{512, 1, api.ErrArg}, {-1, 1, api.ErrArg}, {math.MaxInt, 1, api.ErrArg}, {math.MinInt, 1, api.ErrArg}, {512, 257, api.ErrArg},
		{0, 257, api.ErrMany}, {0, -1, api.ErrMany}, {511, math.MaxInt, api.ErrMany}, {511, math.MinInt, api.ErrMany},
	} {
		if got, e := noise.Band(0, c.step, c.many); e != c.e || len(got) != 0 {
			t.Error(i, got, e)
		}
	}
}

// TestFollows holds P16.3 and P16.4.
func TestFollows(t *testing.T) {
	for seed := uint32(5); seed < 4000000000; seed += 99999999 {
		for _, many := range []int{4, 16, 256} {
			for step := 0; step <= 511; step += 17 {
				l, _ := noise.Band(seed, step, many)
				sum := 0.0
				for _, v := range l {
					if v > api.MaxLine || v < -api.MaxLine {
						t.Error(seed, step, v)
					}
					sum += float64(v) * float64(v)
				}
				a, _ := power.Line(1, min(step, 255))
				if d := math.Abs(math.Sqrt(sum) - float64(a)); d > float64(a)/100+math.Sqrt(float64(many))+1 {
					t.Error(seed, step, many, d)
				}
			}
		}
	}
	a, _ := noise.Band(7, 200, 20)
	want := slices.Clone(a)
	clear(a)
	if b, _ := noise.Band(7, 200, 20); !slices.Equal(b, want) {
		t.Error("not the same again")
	}
}
