package quant_test

import (
	"math"
	"slices"
	"testing"

	"reedpipe/api"
	"reedpipe/band"
	"reedpipe/info"
	"reedpipe/power"
	"reedpipe/quant"
)

func some(n, most int, seed uint32) []int {
	out := make([]int, n)
	for i := range out {
		seed = seed*1664525 + 1013904223
		out[i] = int(seed>>1)%(2*most+1) - most
	}
	return out
}

func one(n, at, v int) []int {
	out := make([]int, n)
	out[at] = v
	return out
}

// table is a list for each group, of Max numbers each, told by f.
func table(i api.Info, f func(g, b int) int) [][]int {
	var out [][]int
	for g := range i.Groups {
		var l []int
		for b := 0; b < i.Max; b++ {
			l = append(l, f(g, b))
		}
		out = append(out, l)
	}
	return out
}

// kinds are windows of a rate.
func kinds(rate int) []api.Info {
	bands, _ := band.Many(rate, false)
	few, _ := band.Many(rate, true)
	return []api.Info{
		{Seq: 0, Max: bands, Groups: []int{1}}, {Seq: 1, Shape: 1, Max: bands - 2, Groups: []int{1}}, {Seq: 3, Max: 1, Groups: []int{1}}, {Seq: 0, Max: 0, Groups: []int{1}},
		{Seq: 2, Max: few, Groups: []int{8}}, {Seq: 2, Max: few - 1, Groups: []int{3, 1, 4}}, {Seq: 2, Max: few, Groups: []int{1, 1, 1, 1, 1, 1, 1, 1}}, {Seq: 2, Shape: 1, Max: 0, Groups: []int{2, 6}},
	}
}

func place(rate int, i api.Info, n int) (g, b int) {
	if i.Seq != api.Shorts {
		b, _ = band.Of(rate, false, n)
		return 0, b
	}
	g, _ = info.Group(i, n/32)
	b, _ = band.Of(rate, true, n%32)
	return g, b
}

func TestBoth(t *testing.T) {
	for rate := 0; rate <= 11; rate++ {
		for k, i := range kinds(rate) {
			books := table(i, func(g, b int) int { return (g*5 + b*3 + k) % 14 })
			steps := table(i, func(g, b int) int { return (g*50 + b*41 + 77*k) % 256 })
			for g, l := range books {
				for b, book := range l {
					if book == 0 || book > 11 { // any step may be there
						steps[g][b] = -5000 * b
					}
				}
			}
			q, x := some(256, 8191, uint32(rate)), some(256, api.MaxLine>>k, uint32(k))
			q[0], q[1], x[0], x[1] = 8191, -8191, api.MaxLine, -api.MaxLine
			lines, e := quant.Lines(rate, i, books, steps, q)
			if e != api.OK || len(lines) != 256 {
				t.Fatal(rate, k, e)
			}
			small, e := quant.Quantise(rate, i, books, steps, x)
			if e != api.OK || len(small) != 256 {
				t.Fatal(rate, k, e)
			}
			for n := range q {
				g, b := place(rate, i, n)
				wantL, wantQ := 0, 0
				if b < i.Max && books[g][b] >= 1 && books[g][b] <= 11 {
					wantL, _ = power.Line(q[n], steps[g][b])
					wantQ, _ = power.Quant(x[n], steps[g][b])
				}
				if lines[n] != wantL || small[n] != wantQ {
					t.Fatal(rate, k, n, lines[n], wantL, small[n], wantQ)
				}
			}
			again, _ := quant.Lines(rate, i, books, steps, small)
			small, _ = quant.Quantise(rate, i, books, steps, again)
			if twice, _ := quant.Lines(rate, i, books, steps, small); !slices.Equal(again, twice) {
				t.Error(rate, k, "not the same again")
			}
		}
	}
}

// refused holds both functions to one error.
func refused(t *testing.T, name string, rate int, i api.Info, books, steps [][]int, l []int, want api.Errno) {
	t.Helper()
	if got, e := quant.Lines(rate, i, books, steps, l); e != want || len(got) != 0 {
		t.Error(name, "lines", e)
	}
	if got, e := quant.Quantise(rate, i, books, steps, l); e != want || len(got) != 0 {
		t.Error(name, "quantise", e)
	}
}

func TestRefuses(t *testing.T) {
	i := api.Info{Max: 3, Groups: []int{1}}
	s := api.Info{Seq: 2, Max: 2, Groups: []int{3, 5}}
	books, steps, l := [][]int{{1, 2, 11}}, [][]int{{0, 255, 9}}, make([]int, 256)
	refused(t, "rate", -1, i, books, steps, l, api.ErrArg)
	refused(t, "rate", 12, api.Info{}, nil, nil, nil, api.ErrArg)
	refused(t, "info", 0, api.Info{}, nil, nil, nil, api.ErrBad)
	refused(t, "info", 0, api.Info{Max: 23, Groups: []int{1}}, nil, nil, nil, api.ErrBad)
	refused(t, "no books", 0, i, nil, steps, l, api.ErrMany)
	refused(t, "no steps", 0, i, books, nil, l, api.ErrMany)
	refused(t, "few books", 0, i, [][]int{{1, 2}}, steps, l, api.ErrMany)
	refused(t, "few steps", 0, i, books, [][]int{{1, 2}}, l, api.ErrMany)
	refused(t, "books", 0, i, [][]int{{1, 2, 3, 4}}, steps, l, api.ErrMany)
	refused(t, "steps", 0, i, books, [][]int{{1, 2, 3, 4}}, l, api.ErrMany)
	refused(t, "lists of books", 0, i, [][]int{{1, 2, 3}, {1, 2, 3}}, steps, l, api.ErrMany)
	refused(t, "lists of steps", 0, i, books, [][]int{{1, 2, 3}, {}}, l, api.ErrMany)
	refused(t, "one group", 0, s, [][]int{{1, 2}}, [][]int{{1, 2}}, l, api.ErrMany)
	refused(t, "second group", 0, s, [][]int{{1, 2}, {1}}, [][]int{{1, 2}, {1, 2}}, l, api.ErrMany)
	refused(t, "second group", 0, s, [][]int{{1, 2}, {1, 2}}, [][]int{{1, 2}, {1}}, l, api.ErrMany)
	refused(t, "shape ahead of book", 0, i, [][]int{{99, 2, 3}}, [][]int{{1}}, nil, api.ErrMany)
	for _, v := range []int{-1, 14, math.MinInt, math.MaxInt} {
		for at := 0; at < 3; at++ {
			refused(t, "book", 0, i, [][]int{one(3, at, v)}, steps, nil, api.ErrArg)
		}
	}
	for _, v := range []int{-1, 256, math.MinInt, math.MaxInt} {
		for book := 0; book <= 13; book++ {
			want := api.ErrArg
			if book == 0 || book > 11 {
				want = api.ErrMany // of the lines
			}
			refused(t, "step", 0, i, [][]int{{0, 0, book}}, [][]int{{0, 0, v}}, nil, want)
			refused(t, "step", 0, s, [][]int{{0, 0}, {book, 0}}, [][]int{{0, 0}, {v, 0}}, nil, want)
		}
	}
	for _, n := range []int{0, 32, 255, 257} {
		refused(t, "lines", 0, i, books, steps, slices.Repeat([]int{math.MaxInt}, n), api.ErrMany)
	}
	for _, at := range []int{0, 100, 255} {
		for _, v := range []int{1 << 28, -1 << 28, math.MinInt, math.MaxInt} {
			refused(t, "line", 0, i, books, steps, one(256, at, v), api.ErrArg)
		}
		for _, v := range []int{8192, -8192} {
			if got, e := quant.Lines(0, i, books, steps, one(256, at, v)); e != api.ErrArg || len(got) != 0 {
				t.Error(at, v, e)
			}
			if _, e := quant.Quantise(0, i, books, steps, one(256, at, v)); e != api.OK {
				t.Error(at, v, e)
			}
		}
	}
}

// TestMemory holds P14.3.
func TestMemory(t *testing.T) {
	i := api.Info{Max: 3, Groups: []int{1}}
	books, steps, l := [][]int{{1, 0, 11}}, [][]int{{7, 255, 9}}, some(256, 50, 1)
	was := slices.Clone(l)
	a, _ := quant.Lines(0, i, books, steps, l)
	b, _ := quant.Quantise(0, i, books, steps, l)
	clear(a)
	clear(b)
	if !slices.Equal(l, was) || !slices.Equal(books[0], []int{1, 0, 11}) || !slices.Equal(steps[0], []int{7, 255, 9}) || i.Groups[0] != 1 {
		t.Error("written to")
	}
}

func TestExamples(t *testing.T) {
	i := api.Info{Max: 1, Groups: []int{1}}
	got, e := quant.Lines(0, i, [][]int{{0}}, [][]int{{100}}, one(256, 0, 1))
	if e != api.OK || !slices.Equal(got, make([]int, 256)) {
		t.Error(got, e)
	}
	got, e = quant.Lines(0, i, [][]int{{1}}, [][]int{{100}}, one(256, 0, 1))
	if want, _ := power.Line(1, 100); e != api.OK || !slices.Equal(got, one(256, 0, want)) {
		t.Error(got, e)
	}
}
