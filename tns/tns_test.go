package tns_test

import (
	"math"
	"slices"
	"testing"

	"reedpipe/api"
	"reedpipe/band"
	"reedpipe/tns"
	"reedpipe/trig"
)

func some(n, most int, seed uint32) []int {
	out := make([]int, n)
	for i := range out {
		seed = seed*1664525 + 1013904223
		out[i] = int(seed>>1)%(2*most+1) - most
	}
	return out
}

func one(n, at, v int) []int {
	out := make([]int, n)
	out[at] = v
	return out
}

func off(n, bits int) int { return (n + 1<<(bits-1)) >> bits }

// predict is chapter 15's, with lists from 1 on.
func predict(f api.Filter) []int {
	a := []int{0}
	for m := 1; m <= f.Order; m++ {
		c := f.Coefs[m-1]
		d := 7
		switch {
		case f.Fine && c >= 0:
			d = 15
		case f.Fine:
			d = 17
		case c < 0:
			d = 9
		}
		k := off(trig.Sin(int(math.Floor(float64(2048*c+d)/float64(2*d)))), 6)
		next := []int{0}
		for i := 1; i < m; i++ {
			next = append(next, a[i]+off(k*a[m-i], 20))
		}
		a = append(next, k)
	}
	return a[1:]
}

func filter(f api.Filter, x []int, forward bool) {
	a := predict(f)
	if f.Down {
		slices.Reverse(x)
		defer slices.Reverse(x)
	}
	old := slices.Clone(x)
	for n := range x {
		sum := 0
		for m, v := range a {
			if n-1-m < 0 {
				break
			}
			if forward {
				sum += v * old[n-1-m]
			} else {
				sum += v * x[n-1-m]
			}
		}
		if forward {
			x[n] += off(sum, 20)
		} else {
			x[n] -= off(sum, 20)
		}
		x[n] = max(min(x[n], api.MaxLine), -api.MaxLine)
	}
}

// filtered are lines by all filters, told band by band.
func filtered(rate int, i api.Info, l [][]api.Filter, x []int, forward bool) []int {
	out := slices.Clone(x)
	o, _ := band.Offsets(rate, i.Seq == api.Shorts)
	for w, filters := range l {
		top := i.Max
		for _, f := range filters {
			low := top - f.Len
			if low < 0 {
				low = 0
			}
			filter(f, out[32*w+o[low]:32*w+o[top]], forward)
			top = low
		}
	}
	return out
}

func coefs(n int, seed uint32, fine bool) []int {
	out := make([]int, n)
	for i := range out {
		seed = seed*1664525 + 1013904223
		if fine {
			out[i] = int(seed>>20)%16 - 8
		} else {
			out[i] = int(seed>>20)%8 - 4
		}
	}
	return out
}

func newFilter(l, order int, down, fine bool, seed uint32) api.Filter {
	return api.Filter{Len: l, Order: order, Down: down, Fine: fine, Coefs: coefs(order, seed, fine)}
}

func TestPredict(t *testing.T) {
	for c := -8; c <= 7; c++ {
		for _, fine := range []bool{false, true} {
			f := api.Filter{Order: 1, Fine: fine, Coefs: []int{c}}
			got, e := tns.Predict(f)
			if !fine && (c < -4 || c > 3) {
				if e != api.ErrArg || len(got) != 0 {
					t.Error(c, fine, got, e)
				}
				continue
			}
			if e != api.OK || !slices.Equal(got, predict(f)) {
				t.Error(c, fine, got, e)
			}
			turn := 15.0
			switch {
			case fine && c < 0:
				turn = 17
			case !fine && c >= 0:
				turn = 7
			case !fine:
				turn = 9
			}
			if d := float64(got[0]) - 1048576*math.Sin(float64(c)*math.Pi/turn); math.Abs(d) > 1700 {
				t.Error(c, fine, got, d)
			}
		}
	}
	for order := 0; order <= 12; order++ {
		for seed := uint32(0); seed < 20; seed++ {
			f := newFilter(63, order, seed%3 == 0, seed%2 == 0, seed)
			if got, e := tns.Predict(f); e != api.OK || !slices.Equal(got, predict(f)) {
				t.Error(f, got, e)
			}
		}
	}
	for _, v := range []int{-8, 7} {
		f := api.Filter{Order: 12, Fine: true, Coefs: slices.Repeat([]int{v}, 12)}
		if got, e := tns.Predict(f); e != api.OK || !slices.Equal(got, predict(f)) {
			t.Error(f, got, e)
		}
	}
	if got, e := tns.Predict(api.Filter{Order: 1, Coefs: []int{0}}); e != api.OK || !slices.Equal(got, []int{0}) {
		t.Error(got, e)
	}
}

// odd are filters that may not be, each with its error.
func odd() map[*api.Filter]api.Errno {
	return map[*api.Filter]api.Errno{
		{Order: -1}:                         api.ErrMany,
		{Order: 13}:                         api.ErrMany,
		{Order: 13, Coefs: make([]int, 13)}: api.ErrMany,
		{Order: 1}:                          api.ErrMany,
		{Order: 0, Coefs: []int{0}}:         api.ErrMany,
		{Order: 2, Coefs: []int{1}}:         api.ErrMany,
		{Order: 2, Coefs: []int{1, 99, 3}}:  api.ErrMany,
		{Order: math.MaxInt}:                api.ErrMany,
		{Order: math.MinInt, Len: 64}:       api.ErrMany,
		{Len: -1}:                           api.ErrArg,
		{Len: 64}:                           api.ErrArg,
		{Len: math.MaxInt}:                  api.ErrArg,
		{Len: math.MinInt, Order: 1, Coefs: []int{1}}:  api.ErrArg,
		{Order: 1, Coefs: []int{4}}:                    api.ErrArg,
		{Order: 1, Coefs: []int{-5}}:                   api.ErrArg,
		{Order: 2, Fine: true, Coefs: []int{0, 8}}:     api.ErrArg,
		{Order: 2, Fine: true, Coefs: []int{0, -9}}:    api.ErrArg,
		{Order: 1, Fine: true, Coefs: []int{1 << 62}}:  api.ErrArg,
		{Order: 1, Fine: true, Coefs: []int{-1 << 63}}: api.ErrArg,
	}
}

// both holds the two ways to one error.
func both(t *testing.T, name string, rate int, i api.Info, l [][]api.Filter, x []int, want api.Errno) {
	t.Helper()
	if got, e := tns.Forward(rate, i, l, x); e != want || e != api.OK && len(got) != 0 {
		t.Error(name, "forward", e)
	}
	if got, e := tns.Back(rate, i, l, x); e != want || e != api.OK && len(got) != 0 {
		t.Error(name, "back", e)
	}
}

func TestRefuses(t *testing.T) {
	long := api.Info{Max: 5, Groups: []int{1}}
	short := api.Info{Seq: 2, Max: 4, Groups: []int{8}}
	x := make([]int, 256)
	none := make([][]api.Filter, 8)
	both(t, "rate", -1, long, none[:1], x, api.ErrArg)
	both(t, "rate", 12, api.Info{}, nil, nil, api.ErrArg)
	both(t, "info", 0, api.Info{}, none[:1], x, api.ErrBad)
	both(t, "info", 0, api.Info{Max: 23, Groups: []int{1}}, nil, nil, api.ErrBad)
	both(t, "no lists", 0, long, nil, x, api.ErrMany)
	both(t, "two lists", 0, long, none[:2], x, api.ErrMany)
	both(t, "one list", 0, short, none[:1], x, api.ErrMany)
	both(t, "eight lists", 0, short, none, x, api.OK)
	both(t, "three filters", 0, long, [][]api.Filter{make([]api.Filter, 3)}, x, api.OK)
	both(t, "four filters", 0, long, [][]api.Filter{make([]api.Filter, 4)}, x, api.ErrMany)
	l := slices.Clone(none)
	l[7] = make([]api.Filter, 1)
	both(t, "one of a short window", 0, short, l, x, api.OK)
	l[7] = make([]api.Filter, 2)
	both(t, "two of a short window", 0, short, l, x, api.ErrMany)
	l[0] = []api.Filter{{Len: 99}}
	both(t, "lists ahead of filters", 0, short, l, nil, api.ErrMany)
	for f, want := range odd() {
		if got, e := tns.Predict(*f); e != want || len(got) != 0 {
			t.Error(f, got, e)
		}
		both(t, "filter", 0, long, [][]api.Filter{{{}, {}, *f}}, nil, want)
		l := slices.Clone(none)
		l[5] = []api.Filter{*f}
		both(t, "short filter", 0, short, l, nil, want)
		l[4] = []api.Filter{{Len: 64}}
		both(t, "first filter's", 0, short, l, nil, api.ErrArg)
		l[4] = []api.Filter{{Order: 13}}
		both(t, "first filter's", 0, short, l, nil, api.ErrMany)
	}
	for _, n := range []int{0, 32, 255, 257} {
		both(t, "lines", 0, long, none[:1], slices.Repeat([]int{1 << 40}, n), api.ErrMany)
	}
	for _, v := range []int{1 << 28, -1 << 28, math.MaxInt, math.MinInt} {
		for _, at := range []int{0, 99, 255} {
			both(t, "line", 0, long, none[:1], one(256, at, v), api.ErrArg)
		}
	}
}

// filters of many kinds: lengths that are too long, orders of 0, filters one below the other.
func filters(k uint32, short bool) []api.Filter {
	most := 63
	if short {
		most = 6
	}
	var out []api.Filter
	for n := uint32(0); n < k%4; n++ {
		out = append(out, newFilter(int(k*11+n*5)%(most+1)/int(1+k%3), int(k*5+n*3)%13, (k+n)%2 == 0, k%3 == 0, k*9+n))
	}
	if short && len(out) > 1 {
		out = out[:1]
	}
	return out
}

func TestFilters(t *testing.T) {
	for rate := 0; rate <= 11; rate++ {
		bands, _ := band.Many(rate, false)
		few, _ := band.Many(rate, true)
		for k := uint32(0); k < 24; k++ {
			i, l := api.Info{Seq: uint8(k%2) * 3, Max: bands - int(k%5), Groups: []int{1}}, [][]api.Filter{filters(k, false)}
			if k%3 == 2 {
				i = api.Info{Seq: 2, Max: few - int(k%2), Groups: []int{5, 3}}
				l = nil
				for w := uint32(0); w < 8; w++ {
					l = append(l, filters(k+w, true))
				}
			}
			for _, most := range []int{40, 1 << 16, api.MaxLine} {
				x := some(256, most, k)
				got, e := tns.Forward(rate, i, l, x)
				if e != api.OK || !slices.Equal(got, filtered(rate, i, l, x, true)) {
					t.Fatal(rate, k, most, "forward", e)
				}
				got, e = tns.Back(rate, i, l, x)
				if e != api.OK || !slices.Equal(got, filtered(rate, i, l, x, false)) {
					t.Fatal(rate, k, most, "back", e)
				}
			}
		}
	}
}

// TestKept holds what is kept within MaxLine, at the most that may come together.
func TestKept(t *testing.T) {
	i := api.Info{Max: 22, Groups: []int{1}}
	for _, v := range []int{-8, 7} {
		for _, down := range []bool{false, true} {
			l := [][]api.Filter{{{Len: 63, Order: 12, Fine: true, Down: down, Coefs: slices.Repeat([]int{v}, 12)}}}
			for _, x := range [][]int{slices.Repeat([]int{api.MaxLine}, 256), slices.Repeat([]int{-api.MaxLine}, 256), slices.Repeat([]int{api.MaxLine, -api.MaxLine}, 128)} {
				if got, e := tns.Forward(0, i, l, x); e != api.OK || !slices.Equal(got, filtered(0, i, l, x, true)) {
					t.Error(v, down, e)
				}
				if got, e := tns.Back(0, i, l, x); e != api.OK || !slices.Equal(got, filtered(0, i, l, x, false)) {
					t.Error(v, down, e)
				}
			}
		}
	}
}

// TestMemory holds P15.3.
func TestMemory(t *testing.T) {
	i := api.Info{Max: 5, Groups: []int{1}}
	l := [][]api.Filter{{newFilter(9, 3, true, true, 4)}}
	c := slices.Clone(l[0][0].Coefs)
	x := some(256, 99, 1)
	was := slices.Clone(x)
	a, _ := tns.Forward(0, i, l, x)
	b, _ := tns.Back(0, i, l, x)
	p, _ := tns.Predict(l[0][0])
	clear(a)
	clear(b)
	clear(p)
	n, _ := tns.Forward(0, i, [][]api.Filter{nil}, x)
	if !slices.Equal(n, x) {
		t.Error("no filters change lines")
	}
	clear(n)
	if !slices.Equal(x, was) || !slices.Equal(l[0][0].Coefs, c) {
		t.Error("written to")
	}
}

// TestThereAndBack holds P15.4.
func TestThereAndBack(t *testing.T) {
	for k := uint32(1); k < 60; k++ {
		i, l := api.Info{Max: 18, Groups: []int{1}}, [][]api.Filter{filters(k, false)}
		x := some(256, 5000, k)
		y, _ := tns.Forward(3, i, l, x)
		if z, _ := tns.Back(3, i, l, y); !slices.Equal(z, x) {
			t.Error(k, "forward and back")
		}
		y, _ = tns.Back(3, i, l, x)
		kept := slices.ContainsFunc(y, func(v int) bool { return v == api.MaxLine || v == -api.MaxLine })
		if z, _ := tns.Forward(3, i, l, y); !kept && !slices.Equal(z, x) {
			t.Error(k, "back and forward")
		}
		o, _ := band.Offsets(3, false)
		if !slices.Equal(y[o[18]:], x[o[18]:]) {
			t.Error(k, "lines behind Max")
		}
	}
}
