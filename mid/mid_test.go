package mid_test

import (
	"math"
	"slices"
	"testing"

	"reedpipe/api"
	"reedpipe/mid"
)

const most = api.MaxLine

func some(n, most int, seed uint32) []int {
	out := make([]int, n)
	for i := range out {
		seed = seed*1664525 + 1013904223
		out[i] = int(seed>>1)%(2*most+1) - most
	}
	return out
}

func kept(v int) int { return max(min(v, most), -most) }

// half is a number halved, halves up.
func half(v int) int { return int(math.Floor(float64(v+1) / 2)) }

// edges are pairs of lines with all that is odd about halving and keeping.
func edges() (a, b []int) {
	l := []int{0, 1, -1, 2, -2, 3, -3, 9, most, -most, most - 1, 1 - most, most / 2, -most / 2, 777}
	for _, x := range l {
		for _, y := range l {
			a, b = append(a, x), append(b, y)
		}
	}
	return append(a, some(31, most, 1)...), append(b, some(31, most, 2)...)
}

func TestBoth(t *testing.T) {
	for n := 0; n <= 256; n += 16 {
		a, b := edges()
		a, b = a[:n], b[:n]
		m, s, e := mid.Split(a, b)
		if e != api.OK || len(m) != n || len(s) != n {
			t.Fatal(n, e)
		}
		l, r, e := mid.Join(a, b)
		if e != api.OK || len(l) != n || len(r) != n {
			t.Fatal(n, e)
		}
		for i := range a {
			if m[i] != kept(half(a[i]+b[i])) || s[i] != kept(half(a[i]-b[i])) {
				t.Error(a[i], b[i], m[i], s[i])
			}
			if l[i] != kept(a[i]+b[i]) || r[i] != kept(a[i]-b[i]) {
				t.Error(a[i], b[i], l[i], r[i])
			}
		}
	}
}

func TestExamples(t *testing.T) {
	if m, s, e := mid.Split([]int{4}, []int{2}); e != api.OK || !slices.Equal(m, []int{3}) || !slices.Equal(s, []int{1}) {
		t.Error(m, s, e)
	}
	if l, r, e := mid.Join([]int{3}, []int{1}); e != api.OK || !slices.Equal(l, []int{4}) || !slices.Equal(r, []int{2}) {
		t.Error(l, r, e)
	}
}

func TestRefuses(t *testing.T) {
	check := func(a, b []int, want api.Errno) {
		t.Helper()
		if x, y, e := mid.Split(a, b); e != want || len(x) != 0 || len(y) != 0 {
			t.Error(len(a), len(b), e)
		}
		if x, y, e := mid.Join(a, b); e != want || len(x) != 0 || len(y) != 0 {
			t.Error(len(a), len(b), e)
		}
	}
	check([]int{1}, nil, api.ErrMany)
	check(nil, []int{1}, api.ErrMany)
	check([]int{1 << 40}, []int{1, 2}, api.ErrMany)
	check(make([]int, 257), make([]int, 257), api.ErrMany)
	check(make([]int, 256), make([]int, 257), api.ErrMany)
	check(slices.Repeat([]int{1 << 40}, 257), make([]int, 257), api.ErrMany)
	for _, v := range []int{most + 1, -most - 1, math.MaxInt, math.MinInt} {
		check([]int{0, v}, []int{0, 0}, api.ErrArg)
		check([]int{0, 0}, []int{v, 0}, api.ErrArg)
		l := make([]int, 256)
		l[255] = v
		check(make([]int, 256), l, api.ErrArg)
	}
}

// TestMemory holds P17.3.
func TestMemory(t *testing.T) {
	a, b := []int{1, 2, 3}, []int{4, 5, 6}
	for _, f := range []func(a, b []int) ([]int, []int, api.Errno){mid.Split, mid.Join} {
		x, y, _ := f(a, b)
		want := slices.Clone(y)
		clear(x)
		x = append(x[:0], make([]int, cap(x))...)
		if !slices.Equal(y, want) {
			t.Error("shares")
		}
		clear(y)
		_, _ = x, y
	}
	if !slices.Equal(a, []int{1, 2, 3}) || !slices.Equal(b, []int{4, 5, 6}) {
		t.Error("written to")
	}
}

// TestFollows holds P17.4.
func TestFollows(t *testing.T) {
	a, b := some(256, most/2, 1), some(256, most/2, 2)
	m, s, _ := mid.Split(a, b)
	l, r, _ := mid.Join(m, s)
	for i := range a {
		want := a[i]
		if (a[i]+b[i])%2 != 0 {
			want++
		}
		if l[i] != want || r[i] != b[i] {
			t.Error(a[i], b[i], l[i], r[i])
		}
	}
	l, r, _ = mid.Join(a, b)
	if m, s, _ := mid.Split(l, r); !slices.Equal(m, a) || !slices.Equal(s, b) {
		t.Error("joined, and split")
	}
	if _, s, _ := mid.Split(a, a); !slices.Equal(s, make([]int, 256)) {
		t.Error("sides of the same")
	}
}
