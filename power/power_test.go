package power_test

import (
	"math"
	"math/big"
	"testing"

	"reedpipe/api"
	"reedpipe/power"
)

// four is q times the third root of q, with 12 bits, by long numbers.
func four(q int) int {
	low, high := 0, 1<<18
	n := new(big.Int).Lsh(big.NewInt(int64(q)), 36)
	for low < high {
		m := (low + high + 1) / 2
		if new(big.Int).Exp(big.NewInt(int64(m)), big.NewInt(3), nil).Cmp(n) <= 0 {
			low = m
		} else {
			high = m - 1
		}
	}
	return q * low
}

// table are the lines of all q from 0 on, at a step.
func table(fours []int, step int) []int {
	quarter := []int{1 << 30, 0x4C1BF829, 0x5A82799A, 0x6BA27E65}[step%4]
	out := make([]int, len(fours))
	for q, f := range fours {
		n := f * quarter
		if bits := 61 - step/4; bits > 0 {
			n = (n + 1<<(bits-1)) >> bits
		}
		if n > 1<<28-1 {
			n = 1<<28 - 1
		}
		out[q] = n
	}
	return out
}

func allFours() []int {
	out := make([]int, 8192)
	for q := range out {
		out[q] = four(q)
	}
	return out
}

func TestFour(t *testing.T) {
	for q, want := range allFours() {
		if got, e := power.Four(q); got != want || e != api.OK {
			t.Error(q, got, e)
		}
	}
	for i, c := range [][2]int{{0, 0}, {1, 4096}, {8, 65536}, {27, 331776}} {
		if got, e := power.Four(c[0]); got != c[1] || e != api.OK {
			t.Error(i, got, e)
		}
	}
	for _, q := range []int{-1, 8192, math.MinInt, math.MaxInt} {
		if got, e := power.Four(q); got != 0 || e != api.ErrArg {
			t.Error(q, got, e)
		}
	}
}

func TestLine(t *testing.T) {
	fours := allFours()
	for step := 0; step <= 255; step++ {
		for q, want := range table(fours, step) {
			if q > 300 && q%97 != step%97 && q < 8185 {
				continue
			}
			if got, e := power.Line(q, step); got != want || e != api.OK {
				t.Error(q, step, got, want, e)
			}
			if got, e := power.Line(-q, step); got != -want || e != api.OK {
				t.Error(-q, step, got, want, e)
			}
		}
	}
	if got, e := power.Line(1, 255); got != api.MaxLine || e != api.OK {
		t.Error(got, e)
	}
	if got, e := power.Line(1, 100); got != 64 || e != api.OK {
		t.Error(got, e)
	}
}

func TestRefuses(t *testing.T) {
	for i, c := range [][2]int{{8192, 0}, {-8192, 0}, {1, 256}, {1, -1}, {math.MinInt, 0}, {math.MaxInt, 0}, {0, math.MinInt}, {0, math.MaxInt}} {
		if got, e := power.Line(c[0], c[1]); got != 0 || e != api.ErrArg {
			t.Error(i, got, e)
		}
	}
	for i, c := range [][2]int{{1 << 28, 0}, {-1 << 28, 0}, {1, 256}, {1, -1}, {math.MinInt, 0}, {math.MaxInt, 0}, {0, math.MinInt}, {0, math.MaxInt}} {
		if got, e := power.Quant(c[0], c[1]); got != 0 || e != api.ErrArg {
			t.Error(i, got, e)
		}
	}
}

// quant goes through all lines in order.
func quant(lines []int, x int) int {
	for q := 0; q < 8191; q++ {
		if 2*x <= lines[q]+lines[q+1] {
			return q
		}
	}
	return 8191
}

func TestQuant(t *testing.T) {
	fours := allFours()
	for step := 0; step <= 255; step++ {
		lines := table(fours, step)
		all := []int{0, 1, 2, 3, 1<<28 - 1, 1<<28 - 2, 1 << 27, 12345678, 777777, 54321, 999, 64}
		for _, q := range []int{0, 1, 2, 3, 15, 16, 100, 4095, 8189, 8190} {
			mid := (lines[q] + lines[q+1]) / 2
			all = append(all, mid, mid+1, lines[q], lines[q+1])
		}
		for _, x := range all {
			if x > 1<<28-1 {
				continue
			}
			want := quant(lines, x)
			if got, e := power.Quant(x, step); got != want || e != api.OK {
				t.Error(x, step, got, want, e)
			}
			if got, e := power.Quant(-x, step); got != -want || e != api.OK {
				t.Error(-x, step, got, want, e)
			}
		}
	}
	if got, e := power.Quant(0, 7); got != 0 || e != api.OK {
		t.Error(got, e)
	}
}

// TestFollows holds P7.2.
func TestFollows(t *testing.T) {
	for step := 0; step < 255; step += 3 {
		was := 0
		for q := 0; q <= 8191; q += 1 + q/50 {
			n, _ := power.Line(q, step)
			above, _ := power.Line(q, step+1)
			if n < was || above < n {
				t.Error(q, step, n, above)
			}
			was = n
			back, _ := power.Quant(n, step)
			if again, _ := power.Line(back, step); again != n {
				t.Error(q, step, n, back, again)
			}
		}
		for x := 0; x < 1<<28; x = x*2 + 5 {
			q, _ := power.Quant(x, step)
			n, _ := power.Line(q, step)
			for d := -3; d <= 3; d++ {
				if other, e := power.Line(q+d, step); e == api.OK && max(other-x, x-other) < max(n-x, x-n) {
					t.Error(x, step, q, d)
				}
			}
		}
	}
}
