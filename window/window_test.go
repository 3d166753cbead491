package window_test

import (
	"math"
	"math/big"
	"slices"
	"testing"

	"reedpipe/api"
	"reedpipe/trig"
	"reedpipe/window"
)

// kbd is chapter 5's, in long numbers.
func kbd(many, beta int64) []int {
	n := func(x int64) *big.Int { return big.NewInt(x) }
	mul := func(x, y *big.Int) *big.Int { return new(big.Int).Mul(x, y) }
	div := func(x, y *big.Int) *big.Int { return new(big.Int).Div(x, y) }
	var sums []*big.Int
	sum := n(0)
	for j := int64(0); j <= many; j++ {
		u := div(mul(n(205887*205887), n(beta*beta*j*(many-j))), n(many*many*65536))
		w, term := n(1<<14), n(1<<14)
		for k := int64(1); k <= 63; k++ {
			term = div(mul(term, u), n(65536*k*k))
			w = new(big.Int).Add(w, term)
		}
		sum = new(big.Int).Add(sum, w)
		sums = append(sums, sum)
	}
	var out []int
	for _, s := range sums[:many] {
		q := div(mul(s, n(1<<44)), sum)
		out = append(out, int(q.Sqrt(q).Int64()))
	}
	return out
}

func sine(many, s int) []int {
	var out []int
	for n := 0; n < many; n++ {
		out = append(out, (trig.Sin((2*n+1)*s)+8)>>4)
	}
	return out
}

func TestHalf(t *testing.T) {
	for i, c := range []struct {
		shape uint8
		short bool
		want  []int
	}{
		{api.Sine, false, sine(256, 1)},
		{api.Sine, true, sine(32, 8)},
		{api.Kbd, false, kbd(256, 4)},
		{api.Kbd, true, kbd(32, 6)},
	} {
		got, e := window.Half(c.shape, c.short)
		if e != api.OK || !slices.Equal(got, c.want) {
			t.Error(i, got, e)
		}
	}
	for shape := 2; shape < 256; shape++ {
		for _, short := range []bool{false, true} {
			if got, e := window.Half(uint8(shape), short); e != api.ErrArg || len(got) != 0 {
				t.Error(shape, got, e)
			}
		}
	}
}

// TestShape holds the halves against what windows of these names are, told by floats.
func TestShape(t *testing.T) {
	for _, short := range []bool{false, true} {
		many := 256.0
		if short {
			many = 32
		}
		got, _ := window.Half(api.Sine, short)
		for n, v := range got {
			if d := float64(v) - 4194304*math.Sin((float64(n)+0.5)*math.Pi/2/many); math.Abs(d) > 1 {
				t.Error(short, n, d)
			}
		}
	}
}

// TestNew holds P5.2.
func TestNew(t *testing.T) {
	for shape := uint8(0); shape < 2; shape++ {
		a, _ := window.Half(shape, true)
		want := slices.Clone(a)
		for i := range a {
			a[i] = -1
		}
		if b, _ := window.Half(shape, true); !slices.Equal(b, want) {
			t.Error(b)
		}
	}
}

// TestFollows holds P5.3.
func TestFollows(t *testing.T) {
	for shape := uint8(0); shape < 2; shape++ {
		for _, short := range []bool{false, true} {
			h, _ := window.Half(shape, short)
			was := 0
			for n, v := range h {
				if v <= was || v > 1<<22 {
					t.Error(shape, short, n, v)
				}
				was = v
				w := h[len(h)-1-n]
				if d := v*v + w*w - 1<<44; d > 1<<25 || d < -1<<25 {
					t.Error(shape, short, n, d)
				}
			}
		}
	}
}
