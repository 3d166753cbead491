package fix_test

import (
	"math"
	"math/big"
	"testing"

	"reedpipe/api"
	"reedpipe/fix"
)

const most = 1 << 62

// rounded is n over 2 to the bits, to the nearest, halves up, by long numbers.
func rounded(n, bits int) int {
	x := big.NewInt(int64(n))
	x.Lsh(x, 1)
	d := new(big.Int).Lsh(big.NewInt(1), uint(bits))
	x.Add(x, d)
	d.Lsh(d, 1)
	return int(x.Div(x, d).Int64())
}

func TestRound(t *testing.T) {
	for i, c := range []struct {
		n, bits, want int
		e             api.Errno
	}{
		{5, 1, 3, api.OK}, {-5, 1, -2, api.OK}, {6, 2, 2, api.OK}, {7, 0, 7, api.OK},
		{-6, 2, -1, api.OK}, {-7, 2, -2, api.OK}, {-1, 1, 0, api.OK}, {1, 1, 1, api.OK},
		{-3, 0, -3, api.OK}, {0, 62, 0, api.OK},
		{most, 62, 1, api.OK}, {-most, 62, -1, api.OK}, {most, 0, most, api.OK}, {-most, 0, -most, api.OK},
		{most / 2, 62, 1, api.OK}, {most/2 - 1, 62, 0, api.OK}, {-most / 2, 62, 0, api.OK}, {-most/2 - 1, 62, -1, api.OK},
		{most, 1, most / 2, api.OK}, {most - 1, 1, most / 2, api.OK},
		{most + 1, 3, 0, api.ErrArg}, {-most - 1, 3, 0, api.ErrArg},
		{math.MaxInt, 0, 0, api.ErrArg}, {math.MinInt, 62, 0, api.ErrArg},
		{1, -1, 0, api.ErrArg}, {1, 63, 0, api.ErrArg}, {1, math.MinInt, 0, api.ErrArg}, {1, math.MaxInt, 0, api.ErrArg},
	} {
		if got, e := fix.Round(c.n, c.bits); got != c.want || e != c.e {
			t.Error(i, got, e)
		}
	}
	for _, n := range []int{0, 1, 2, 3, 4, 1000, 12345678901, 1<<40 + 1<<19, 1<<61 - 1, most - 1, most} {
		for bits := 0; bits <= 62; bits++ {
			for _, m := range []int{n, -n} {
				if got, e := fix.Round(m, bits); got != rounded(m, bits) || e != api.OK {
					t.Error(m, bits, got, e)
				}
			}
		}
	}
}

func TestClip(t *testing.T) {
	for i, c := range []struct {
		n, bits, want int
		e             api.Errno
	}{
		{40000, 16, 32767, api.OK}, {-40000, 16, -32768, api.OK}, {7, 16, 7, api.OK},
		{32767, 16, 32767, api.OK}, {32768, 16, 32767, api.OK}, {-32768, 16, -32768, api.OK}, {-32769, 16, -32768, api.OK},
		{5, 1, 0, api.OK}, {0, 1, 0, api.OK}, {-1, 1, -1, api.OK}, {-2, 1, -1, api.OK},
		{math.MaxInt, 62, 1<<61 - 1, api.OK}, {math.MinInt, 62, -1 << 61, api.OK},
		{math.MaxInt, 2, 1, api.OK}, {math.MinInt, 2, -2, api.OK},
		{1, 0, 0, api.ErrArg}, {1, 63, 0, api.ErrArg}, {1, -1, 0, api.ErrArg}, {1, 64, 0, api.ErrArg}, {1, math.MinInt, 0, api.ErrArg},
	} {
		if got, e := fix.Clip(c.n, c.bits); got != c.want || e != c.e {
			t.Error(i, got, e)
		}
	}
}

// roots holds r against its power and that of the next one, by long numbers.
func roots(t *testing.T, n, r, power int) {
	t.Helper()
	p := func(r int) *big.Int {
		return new(big.Int).Exp(big.NewInt(int64(r)), big.NewInt(int64(power)), nil)
	}
	if x := big.NewInt(int64(n)); r < 0 || p(r).Cmp(x) > 0 || p(r+1).Cmp(x) <= 0 {
		t.Error(n, r, power)
	}
}

func TestRoots(t *testing.T) {
	if r, e := fix.Sqrt(99); r != 9 || e != api.OK {
		t.Error(r, e)
	}
	if r, e := fix.Cbrt(27); r != 3 || e != api.OK {
		t.Error(r, e)
	}
	if r, e := fix.Sqrt(most); r != 1<<31 || e != api.OK {
		t.Error(r, e)
	}
	if r, e := fix.Cbrt(most); r != 1664510 || e != api.OK {
		t.Error(r, e)
	}
	all := []int{0, 1, 2, 3, 4, 7, 8, 9, 26, 28, 1<<36 - 1, 1 << 36, 1 << 60, 1<<60 - 1, most - 1, most}
	for r := 1; r < 1<<20; r = r*3/2 + 1 {
		all = append(all, r*r-1, r*r, r*r+1, r*r*r-1, r*r*r, r*r*r+1)
	}
	for r := 1<<31 - 1; r > 1<<30; r -= 99999999 {
		all = append(all, r*r-1, r*r, r*r+1)
	}
	for r := 1664510; r > 1<<20; r -= 99999 {
		all = append(all, r*r*r-1, r*r*r, r*r*r+1)
	}
	for _, n := range all {
		r, e := fix.Sqrt(n)
		if e != api.OK {
			t.Error(n, e)
		}
		roots(t, n, r, 2)
		r, e = fix.Cbrt(n)
		if e != api.OK {
			t.Error(n, e)
		}
		roots(t, n, r, 3)
	}
	for _, n := range []int{-1, most + 1, math.MinInt, math.MaxInt} {
		if r, e := fix.Sqrt(n); r != 0 || e != api.ErrArg {
			t.Error(n, r, e)
		}
		if r, e := fix.Cbrt(n); r != 0 || e != api.ErrArg {
			t.Error(n, r, e)
		}
	}
}

// TestRises holds P3.3.
func TestRises(t *testing.T) {
	for bits := 0; bits < 8; bits++ {
		was := math.MinInt
		for n := -600; n <= 600; n++ {
			got, _ := fix.Round(n, bits)
			if got < was || 2*(got<<bits-n) > 1<<bits || 2*(n-got<<bits) > 1<<bits {
				t.Error(n, bits, got)
			}
			was = got
		}
	}
	square, cube := 0, 0
	for n := 0; n < 5000; n++ {
		s, _ := fix.Sqrt(n)
		c, _ := fix.Cbrt(n)
		if s < square || c < cube {
			t.Error(n, s, c)
		}
		square, cube = s, c
	}
}
