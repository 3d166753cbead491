package lose_test

import (
	"math"
	"slices"
	"testing"

	"reedpipe/api"
	"reedpipe/lose"
)

const most = api.MaxLine

func full(v int) []int { return slices.Repeat([]int{v}, 256) }

func one(n, at, v int) []int {
	out := make([]int, n)
	out[at] = v
	return out
}

func some(most int, seed uint32) []int {
	out := make([]int, 256)
	for i := range out {
		seed = seed*1664525 + 1013904223
		out[i] = int(seed>>1)%(2*most+1) - most
	}
	return out
}

func TestSeq(t *testing.T) {
	for was := 0; was < 256; was++ {
		want, e := uint8(0), api.OK
		if was == 1 || was == 2 {
			want = 3
		}
		if was > 3 {
			e = api.ErrArg
		}
		if got, err := lose.Seq(uint8(was)); got != want || err != e {
			t.Error(was, got, err)
		}
	}
}

func TestExamples(t *testing.T) {
	m, n := full(9), full(3)
	for i, c := range []struct {
		before, after []int
		at, many      int
		want          int
	}{{m, n, 1, 1, 6}, {m, n, 1, 2, 7}, {m, n, 2, 2, 5}, {m, nil, 1, 1, 4}, {m, n, 3, 3, 1}, {m, n, 9, 9, 0}, {m, n, 1, 3, 4}, {full(-9), n, 8, 8, -1}, {full(-9), n, 9, 9, 0}, {full(-9), nil, 2, 2, -3}, {full(-9), full(-4), 1, 1, -7}, {full(-9), full(-4), 2, 2, -6}} {
		if got, e := lose.Lines(c.before, c.after, c.at, c.many); e != api.OK || !slices.Equal(got, full(c.want)) {
			t.Error(i, got[0], e)
		}
	}
}

func down(n, d int) int { return int(math.Floor(float64(n) / float64(d))) }

func TestLines(t *testing.T) {
	for seed := uint32(0); seed < 20; seed++ {
		before, after := some(most>>seed, seed), some(most>>(seed/2), seed+99)
		before[0], after[0], before[1], after[1] = most, most, -most, most
		wasB, wasA := slices.Clone(before), slices.Clone(after)
		for _, many := range []int{1, 2, 3, 7, 8, 9, 10, 40, 65536} {
			for at := 1; at <= min(many, 70); at++ {
				for _, behind := range [][]int{after, nil, {}} {
					var want []int
					for n, v := range before {
						switch {
						case many <= 2 && len(behind) > 0:
							want = append(want, down(v*(many+1-at)+behind[n]*at, many+1))
						case at >= 9:
							want = append(want, 0)
						default:
							want = append(want, down(v, 1<<at))
						}
					}
					got, e := lose.Lines(before, behind, at, many)
					if e != api.OK || !slices.Equal(got, want) {
						t.Fatal(seed, at, many, len(behind), e)
					}
					for n, v := range got {
						top := max(before[n], -before[n])
						if len(behind) > 0 {
							top = max(top, behind[n], -behind[n])
						}
						if max(v, -v) > top {
							t.Error(seed, at, many, n, v)
						}
					}
				}
			}
			if got, e := lose.Lines(before, after, many, many); e != api.OK || many > 8 && !slices.Equal(got, full(0)) {
				t.Error(seed, many, e)
			}
		}
		for many := 1; many <= 2; many++ {
			if got, _ := lose.Lines(before, before, many, many); !slices.Equal(got, before) {
				t.Error(seed, many, "the same on both sides")
			}
		}
		if !slices.Equal(before, wasB) || !slices.Equal(after, wasA) {
			t.Error("written to")
		}
	}
}

func TestRefuses(t *testing.T) {
	m := full(1)
	for i, c := range []struct {
		before, after []int
		at, many      int
		e             api.Errno
	}{
		{m, m, 0, 1, api.ErrArg}, {m, m, 2, 1, api.ErrArg}, {m, m, -1, 3, api.ErrArg}, {m, m, 1, 65537, api.ErrArg}, {m, m, 65537, 65537, api.ErrArg}, {nil, m, 0, 0, api.ErrArg}, {nil, nil, 1, 0, api.ErrArg}, {m, m, math.MinInt, math.MaxInt, api.ErrArg}, {m, m, math.MaxInt, math.MaxInt, api.ErrArg}, {m, m, 1, math.MinInt, api.ErrArg},
		{nil, m, 1, 1, api.ErrMany}, {m[1:], m, 1, 1, api.ErrMany}, {make([]int, 257), m, 1, 1, api.ErrMany}, {m, m[1:], 1, 1, api.ErrMany}, {m, make([]int, 257), 9, 9, api.ErrMany}, {m, m[:1], 9, 9, api.ErrMany}, {one(256, 0, most+1), m[:255], 1, 1, api.ErrMany},
		{one(256, 0, most+1), m, 1, 1, api.ErrArg}, {one(256, 255, -most-1), nil, 9, 9, api.ErrArg}, {m, one(256, 255, most+1), 9, 9, api.ErrArg}, {m, one(256, 0, math.MinInt), 1, 1, api.ErrArg}, {one(256, 7, math.MaxInt), m, 3, 3, api.ErrArg},
	} {
		if got, e := lose.Lines(c.before, c.after, c.at, c.many); e != c.e || len(got) != 0 {
			t.Error(i, e)
		}
	}
	if _, e := lose.Lines(m, m, 65536, 65536); e != api.OK {
		t.Error(e)
	}
}

// TestMemory holds P30.3 as to what is answered.
func TestMemory(t *testing.T) {
	before, after := full(5), full(5)
	for _, many := range []int{1, 3} {
		got, _ := lose.Lines(before, after, 1, many)
		clear(got)
	}
	if !slices.Equal(before, full(5)) || !slices.Equal(after, full(5)) {
		t.Error("shares")
	}
}
