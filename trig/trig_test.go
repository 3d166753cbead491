package trig_test

import (
	"math"
	"testing"

	"reedpipe/trig"
)

const one = 1 << 26

// off rounds n by so many bits, halves up.
func off(n, bits int) int { return (n + 1<<(bits-1)) >> bits }

// terms are the cosine's sum and the sine's of n parts, up to 256, as the words tell them.
func terms(n int) (c, s int) {
	a := off(n*0x3243F6A8886, 20)
	q := off(a*a, 30)
	ck, sk := 1<<30, a
	c, s = ck, sk
	for k := 1; k <= 7; k++ {
		ck = off(ck*q, 30) / (2 * k * (2*k - 1))
		sk = off(sk*q, 30) / (2 * k * (2*k + 1))
		if k%2 == 1 {
			c, s = c-ck, s-sk
		} else {
			c, s = c+ck, s+sk
		}
	}
	return c, s
}

func cosine(n int) int {
	n = ((n % 2048) + 2048) % 2048
	if n > 1024 {
		n = 2048 - n
	}
	if n > 512 {
		return -cosine(1024 - n)
	}
	if n <= 256 {
		c, _ := terms(n)
		return off(c, 4)
	}
	_, s := terms(512 - n)
	return off(s, 4)
}

func TestCos(t *testing.T) {
	for i, c := range [][2]int{{0, one}, {512, 0}, {1024, -one}, {1536, 0}, {2048, one}, {-512, 0}, {-1024, -one}, {256, 47453133}, {1, 67108548}, {511, 205887}, {513, -205887}} {
		if got := trig.Cos(c[0]); got != c[1] {
			t.Error(i, got)
		}
	}
	for n := -5000; n <= 5000; n++ {
		if got := trig.Cos(n); got != cosine(n) {
			t.Error(n, got, cosine(n))
		}
		if got := trig.Sin(n); got != cosine(n-512) {
			t.Error(n, got)
		}
		if d := float64(trig.Cos(n)) - one*math.Cos(float64(n)*math.Pi/1024); math.Abs(d) > 1 {
			t.Error(n, d)
		}
		if d := float64(trig.Sin(n)) - one*math.Sin(float64(n)*math.Pi/1024); math.Abs(d) > 1 {
			t.Error(n, d)
		}
	}
}

func TestSin(t *testing.T) {
	for i, c := range [][2]int{{0, 0}, {512, one}, {1024, 0}, {1536, -one}, {-512, -one}, {256, 47453133}, {1, 205887}, {-1, -205887}} {
		if got := trig.Sin(c[0]); got != c[1] {
			t.Error(i, got)
		}
	}
}

// TestFar holds P4.1 for any n, to the least and the greatest number.
func TestFar(t *testing.T) {
	for d := 0; d < 3000; d += 7 {
		if got := trig.Cos(math.MinInt + d); got != cosine(d) {
			t.Error(d, got)
		}
		if got := trig.Sin(math.MinInt + d); got != cosine(d+1536) {
			t.Error(d, got)
		}
		if got := trig.Cos(math.MaxInt - d); got != cosine(-1-d) {
			t.Error(d, got)
		}
		if got := trig.Sin(math.MaxInt - d); got != cosine(-1-d-512) {
			t.Error(d, got)
		}
	}
}

// TestFollows holds P4.2.
func TestFollows(t *testing.T) {
	for n := 0; n < 2048; n++ {
		c, s := trig.Cos(n), trig.Sin(n)
		if trig.Cos(-n) != c || trig.Cos(n+1024) != -c || trig.Sin(-n) != -s {
			t.Error(n)
		}
		if n < 1024 && trig.Cos(n+1) >= c {
			t.Error(n, "does not fall")
		}
		if d := c*c + s*s - 1<<52; d > 1<<28 || d < -1<<28 {
			t.Error(n, d)
		}
		for m := 0; m < 2048; m += 37 {
			d := trig.Cos(n+m)*one - (c*trig.Cos(m) - s*trig.Sin(m))
			if d > 8*one || d < -8*one {
				t.Error(n, m, d)
			}
		}
	}
}
