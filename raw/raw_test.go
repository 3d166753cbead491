package raw_test

import (
	"bytes"
	"math"
	"slices"
	"testing"

	"reedpipe/api"
	"reedpipe/bits"
	"reedpipe/ics"
	"reedpipe/info"
	"reedpipe/lane"
	"reedpipe/raw"
	"reedpipe/sample"
)

func digits(n, size int) []byte {
	b, _ := bits.Put(nil, n, size)
	return b
}

// plain are a frame's bits as chapter 23 tells them.
func plain(rate int, f api.Frame) []byte {
	out := digits(len(f.Chans)-1, 3)
	out = append(out, 0, 0, 0, 0)
	if len(f.Chans) == 2 {
		if f.Common {
			out = append(out, 1)
			out, _ = info.Put(out, rate, f.Chans[0].Info)
			out = append(out, digits(f.Mask, 2)...)
			for _, l := range f.Bands {
				for _, is := range l {
					if is {
						out = append(out, 1)
					} else {
						out = append(out, 0)
					}
				}
			}
		} else {
			out = append(out, 0)
		}
	}
	for _, c := range f.Chans {
		out, _ = ics.Put(out, rate, c, f.Common)
	}
	if n := len(f.Fill); n > 0 {
		out = append(out, 1, 1, 0)
		if n < 15 {
			out = append(out, digits(n, 4)...)
		} else {
			out = append(append(out, 1, 1, 1, 1), digits(n-14, 8)...)
		}
		for _, v := range f.Fill {
			out = append(out, digits(int(v), 8)...)
		}
	}
	out = append(out, 1, 1, 1)
	for len(out)%8 != 0 {
		out = append(out, 0)
	}
	return out
}

func TestFrames(t *testing.T) {
	d := sample.Dice(1)
	full := 0
	for n := range 700 {
		c := api.Config{Rate: n % 12, Chans: 1 + n%2, Crc: n%3 == 0, Bits: n * n * (n%5 - 2)}
		f := d.Frame(c.Rate, c.Chans, 1+n%25)
		b := plain(c.Rate, f)
		if got, e := raw.Bits(c, f); got != len(b) || e != api.OK {
			t.Fatal(n, got, len(b), e)
		}
		if len(b) > 1536*c.Chans {
			full++
			if e := raw.Check(c, f); e != api.ErrFull {
				t.Fatal(n, e)
			}
			if got, e := raw.Write(c, f); e != api.ErrFull || len(got) != 0 {
				t.Fatal(n, e)
			}
			continue
		}
		want, _ := bits.Pack(b)
		if e := raw.Check(c, f); e != api.OK {
			t.Fatal(n, e)
		}
		if got, e := raw.Write(c, f); e != api.OK || !bytes.Equal(got, want) {
			t.Fatal(n, e)
		}
		back, e := raw.Read(c, want)
		if e != api.OK || !raw.Same(back, f) {
			t.Fatal(n, e)
		}
		if back, e := raw.Read(c, append(slices.Clone(want), 0)); e == api.OK || !raw.Same(back, api.Frame{}) {
			t.Fatal(n, e)
		}
		for cut := 0; cut < len(want); cut += 1 + d.Roll(len(want)) {
			if back, e := raw.Read(c, want[:cut]); e != api.ErrEnd || !raw.Same(back, api.Frame{}) {
				t.Fatal(n, cut, e)
			}
		}
	}
	if full < 20 || full > 600 {
		t.Error(full, "frames of too many bits")
	}
}

func zero(most int) api.Chan {
	c, _ := lane.Zero(0, api.Info{Max: most, Groups: []int{1}})
	return c
}

func mono() api.Config   { return api.Config{Chans: 1} }
func stereo() api.Config { return api.Config{Chans: 2} }

func TestExamples(t *testing.T) {
	f := api.Frame{Chans: []api.Chan{zero(0)}}
	if n, e := raw.Bits(mono(), f); n != 32 || e != api.OK {
		t.Error(n, e)
	}
	if b, e := raw.Write(mono(), f); len(b) != 4 || b[3] != 7 || e != api.OK {
		t.Error(b, e)
	}
	f.Fill = []byte{9}
	if n, e := raw.Bits(mono(), f); n != 48 || e != api.OK {
		t.Error(n, e)
	}
	if e := raw.Check(mono(), api.Frame{Chans: []api.Chan{zero(0), zero(0)}}); e != api.ErrBad {
		t.Error(e)
	}
	if _, e := raw.Read(mono(), nil); e != api.ErrEnd {
		t.Error(e)
	}
}

// refused holds all three to one error.
func refused(t *testing.T, name string, c api.Config, f api.Frame, want api.Errno) {
	t.Helper()
	if e := raw.Check(c, f); e != want {
		t.Error(name, e)
	}
	if n, e := raw.Bits(c, f); e != want || n != 0 {
		t.Error(name, n, e)
	}
	if b, e := raw.Write(c, f); e != want || len(b) != 0 {
		t.Error(name, b, e)
	}
}

func TestConfigs(t *testing.T) {
	for _, c := range []api.Config{{}, {Chans: 3}, {Chans: -1}, {Rate: -1, Chans: 1}, {Rate: 12, Chans: 1}, {Rate: math.MinInt, Chans: 1}, {Chans: math.MaxInt}} {
		refused(t, "config", c, api.Frame{}, api.ErrArg)
		refused(t, "config", c, api.Frame{Chans: []api.Chan{zero(0)}}, api.ErrArg)
		if f, e := raw.Read(c, make([]byte, 999)); e != api.ErrArg || !raw.Same(f, api.Frame{}) {
			t.Error(c, e)
		}
	}
}

func TestMayNot(t *testing.T) {
	one, two := []api.Chan{zero(2)}, []api.Chan{zero(2), zero(2)}
	odd := zero(2)
	odd.Lines[3] = 1
	shorts, _ := lane.Zero(0, api.Info{Seq: 2, Max: 2, Groups: []int{3, 5}})
	shaped, _ := lane.Zero(0, api.Info{Shape: 1, Max: 2, Groups: []int{1}})
	rows := func(l ...[]bool) [][]bool { return l }
	for name, f := range map[string]api.Frame{
		"no channels":            {},
		"two":                    {Chans: two},
		"a channel that may not": {Chans: []api.Chan{odd}},
		"common of one":          {Chans: one, Common: true},
		"mask of one":            {Chans: one, Mask: 2},
		"bands of one":           {Chans: one, Bands: rows(nil)},
		"fill":                   {Chans: one, Fill: make([]byte, 270)},
	} {
		refused(t, name, mono(), f, api.ErrBad)
	}
	for name, f := range map[string]api.Frame{
		"one":               {Chans: one},
		"three":             {Chans: append(slices.Clone(two), zero(2))},
		"first odd":         {Chans: []api.Chan{odd, zero(2)}},
		"second odd":        {Chans: []api.Chan{zero(2), odd}},
		"unlike":            {Chans: []api.Chan{zero(2), zero(3)}, Common: true},
		"unlike shapes":     {Chans: []api.Chan{zero(2), shaped}, Common: true},
		"both bad windows":  {Chans: []api.Chan{{}, {}}, Common: true},
		"mask -1":           {Chans: two, Common: true, Mask: -1},
		"mask 3":            {Chans: two, Common: true, Mask: 3},
		"mask 1":            {Chans: two, Mask: 1, Bands: rows([]bool{true, true})},
		"mask 2":            {Chans: two, Mask: 2},
		"bands of mask 0":   {Chans: two, Common: true, Bands: rows([]bool{true, true})},
		"bands of mask 2":   {Chans: two, Common: true, Mask: 2, Bands: rows([]bool{true, true})},
		"no bands":          {Chans: two, Common: true, Mask: 1},
		"few bands":         {Chans: two, Common: true, Mask: 1, Bands: rows([]bool{true})},
		"many bands":        {Chans: two, Common: true, Mask: 1, Bands: rows(make([]bool, 3))},
		"lists of bands":    {Chans: two, Common: true, Mask: 1, Bands: rows(make([]bool, 2), nil)},
		"one list of bands": {Chans: []api.Chan{shorts, shorts}, Common: true, Mask: 1, Bands: rows(make([]bool, 2))},
		"unlike lists":      {Chans: []api.Chan{shorts, shorts}, Common: true, Mask: 1, Bands: rows(make([]bool, 2), make([]bool, 1))},
		"fill":              {Chans: two, Common: true, Fill: make([]byte, 270)},
	} {
		refused(t, name, stereo(), f, api.ErrBad)
	}
	for name, f := range map[string]api.Frame{
		"apart":    {Chans: two},
		"common":   {Chans: two, Common: true},
		"mask 1":   {Chans: two, Common: true, Mask: 1, Bands: rows(make([]bool, 2))},
		"mask 2":   {Chans: two, Common: true, Mask: 2, Bands: rows()},
		"two rows": {Chans: []api.Chan{shorts, shorts}, Common: true, Mask: 1, Bands: rows(make([]bool, 2), make([]bool, 2))},
		"fill":     {Chans: two, Fill: make([]byte, 269)},
		"unlike":   {Chans: []api.Chan{zero(2), zero(3)}},
	} {
		if e := raw.Check(stereo(), f); e != api.OK {
			t.Error(name, e)
		}
	}
}

// TestFull holds frames to the last bit that they may have.
func TestFull(t *testing.T) {
	for n, want := range map[int]api.Errno{155: api.OK, 185: api.OK, 186: api.OK, 187: api.ErrFull, 269: api.ErrFull} {
		f := api.Frame{Chans: []api.Chan{zero(0)}, Fill: make([]byte, n)}
		all, e := raw.Bits(mono(), f)
		if e != api.OK || all != len(plain(0, f)) {
			t.Error(n, all, e)
		}
		if e := raw.Check(mono(), f); e != want || (all <= 1536) != (e == api.OK) {
			t.Error(n, all, e)
		}
		b, e := raw.Write(mono(), f)
		if e != want || e != api.OK && len(b) != 0 {
			t.Error(n, e)
		}
		if e == api.OK {
			if back, e := raw.Read(mono(), b); e != api.OK || !raw.Same(back, f) {
				t.Error(n, e)
			}
		}
	}
	for chans := 1; chans <= 2; chans++ {
		c := api.Config{Chans: chans}
		if f, e := raw.Read(c, make([]byte, 192*chans+1)); e != api.ErrText || !raw.Same(f, api.Frame{}) {
			t.Error(chans, e)
		}
		if _, e := raw.Read(c, make([]byte, 192*chans)); e != api.ErrBad {
			t.Error(chans, e)
		}
	}
}

func TestReadErrors(t *testing.T) {
	quiet, own := make([]byte, 11), make([]byte, 22) // a channel of nothing, common or not
	windows := make([]byte, 11)
	join := func(l ...[]byte) []byte { return slices.Concat(l...) }
	for n, c := range []struct {
		chans int
		b     []byte
		e     api.Errno
	}{
		{1, join(digits(0, 7), own, digits(7, 3)), api.OK},
		{1, join(digits(1, 3), make([]byte, 40)), api.ErrBad},
		{1, join(digits(1, 3), []byte{0, 0, 0, 0, 0}), api.ErrBad}, // before the bits are at an end
		{1, join(digits(7, 3), []byte{0, 0, 0, 0, 0}), api.ErrBad},
		{1, join(digits(2, 3), []byte{0, 0, 0, 0, 0}), api.ErrBad},
		{2, join(digits(0, 3), []byte{0, 0, 0, 0, 0}), api.ErrBad},
		{1, join(digits(1, 7), []byte{0}), api.ErrBad},
		{1, join(digits(0, 7), own), api.ErrBad}, // three bits 0 behind: another number
		{1, join(digits(0, 7), own, digits(6, 3)), api.ErrEnd},
		{1, join(digits(0, 7), own, digits(5, 3)), api.ErrBad},
		{1, join(digits(0, 7), own, digits(7, 3), digits(0, 8)), api.ErrBad},
		{1, join(digits(0, 7), own, digits(6, 3), digits(1, 4), digits(99, 8), digits(7, 3), []byte{0}), api.OK},
		{1, join(digits(0, 7), own, digits(6, 3), digits(1, 4), digits(99, 8), digits(7, 3), []byte{1}), api.ErrBad},
		{1, join(digits(0, 7), own, digits(6, 3), digits(1, 4), digits(99, 8), digits(6, 3), []byte{0}), api.ErrBad},
		{1, join(digits(0, 7), own, digits(6, 3), digits(0, 4), []byte{1, 1, 1, 0}), api.ErrBad}, // no bytes fill it
		{1, join(digits(0, 7), own, digits(6, 3), digits(0, 4)), api.ErrBad},
		{1, join(digits(0, 7), own, digits(6, 3), digits(15, 4), digits(0, 8), make([]byte, 14*8), digits(7, 3), []byte{0}), api.ErrBad},
		{1, join(digits(0, 7), own, digits(6, 3), digits(15, 4), digits(0, 8)), api.ErrBad},
		{1, join(digits(0, 7), own, digits(6, 3), digits(15, 4), digits(1, 8), make([]byte, 15*8), digits(7, 3), []byte{0}), api.OK},
		{1, join(digits(0, 7), own, digits(6, 3), digits(15, 4), digits(1, 8), make([]byte, 14*8)), api.ErrEnd},
		{1, join(digits(0, 7), []byte{0, 0, 0, 0, 0, 0, 0, 0, 1}, make([]byte, 16)), api.ErrBad}, // windows that may not be
		{2, join(digits(1, 3), digits(0, 5), own, own, digits(7, 3), make([]byte, 1)), api.OK},
		{2, join(digits(1, 3), digits(0, 4), []byte{1}, windows, digits(0, 2), quiet, quiet, digits(7, 3)), api.OK},
		{2, join(digits(1, 3), digits(0, 4), []byte{1}, windows, digits(3, 2), quiet, quiet, digits(7, 3)), api.ErrBad},
		{2, join(digits(1, 3), digits(0, 4), []byte{1}, windows, digits(3, 2), make([]byte, 3)), api.ErrBad},
		{2, join(digits(1, 3), digits(0, 4), []byte{1}, windows, digits(1, 2), quiet, quiet, digits(7, 3)), api.OK}, // no bands, none of them
		{2, join(digits(1, 3), digits(0, 4), []byte{1}, windows, digits(2, 2), quiet, quiet, digits(7, 3)), api.OK},
		{2, join(digits(1, 3), digits(0, 4), []byte{1}, windows, digits(2, 2), quiet, make([]byte, 8)), api.ErrEnd},
	} {
		packed, e := bits.Pack(c.b)
		if e != api.OK {
			t.Fatal(n, e)
		}
		f, e := raw.Read(api.Config{Chans: c.chans}, packed)
		if e != c.e || e != api.OK && !raw.Same(f, api.Frame{}) {
			t.Error(n, e)
		}
	}
}

func TestSame(t *testing.T) {
	base := func() api.Frame {
		f := api.Frame{Chans: []api.Chan{zero(2), zero(2)}, Common: true, Mask: 1, Bands: [][]bool{{true, false}}, Fill: []byte{1, 2}}
		f.Chans[1].Tns[0] = []api.Filter{{Order: 1, Coefs: []int{1}}}
		return f
	}
	for n, change := range []func(f *api.Frame){
		func(f *api.Frame) { f.Chans = f.Chans[:1] },
		func(f *api.Frame) { f.Chans[0].Gain++ },
		func(f *api.Frame) { f.Chans[1].Lines[255]++ },
		func(f *api.Frame) { f.Chans[1].Info.Groups[0]++ },
		func(f *api.Frame) { f.Chans[1].Tns[0][0].Coefs[0]++ },
		func(f *api.Frame) { f.Common = false },
		func(f *api.Frame) { f.Mask = 2 },
		func(f *api.Frame) { f.Bands[0][1] = true },
		func(f *api.Frame) { f.Bands[0] = f.Bands[0][:1] },
		func(f *api.Frame) { f.Bands = append(f.Bands, nil) },
		func(f *api.Frame) { f.Bands = nil },
		func(f *api.Frame) { f.Fill[1]++ },
		func(f *api.Frame) { f.Fill = nil },
	} {
		// What is changed in the twin is not changed in the frame: all lists are new.
		f := base()
		b := raw.Twin(f)
		if !raw.Same(f, b) {
			t.Error(n, "no twin")
		}
		change(&b)
		if raw.Same(f, b) || raw.Same(b, f) || !raw.Same(f, base()) {
			t.Error(n)
		}
	}
	if !raw.Same(api.Frame{}, raw.Twin(api.Frame{})) || !raw.Same(api.Frame{Fill: []byte{}, Bands: [][]bool{}, Chans: []api.Chan{}}, api.Frame{}) {
		t.Error("lists without elements")
	}
}

// TestMemory holds P23.3.
func TestMemory(t *testing.T) {
	d := sample.Dice(4)
	for range 20 {
		f := d.Frame(3, 2, 2)
		was := raw.Twin(f)
		c := api.Config{Rate: 3, Chans: 2}
		raw.Check(c, f)
		raw.Bits(c, f)
		b, e := raw.Write(c, f)
		if e != api.OK {
			continue
		}
		sent := bytes.Clone(b)
		back, _ := raw.Read(c, b)
		back.Chans[0].Info.Groups[0] = 99
		if back.Chans[1].Info.Groups[0] == 99 {
			t.Error("two channels share")
		}
		if !raw.Same(f, was) || !bytes.Equal(b, sent) {
			t.Error("written to")
		}
	}
}

// TestGrammar holds P23.4 on bytes of any kind: what is read is written as these bytes, and may be.
func TestGrammar(t *testing.T) {
	d := sample.Dice(9)
	many := 0
	for n := range 4000 {
		c := api.Config{Rate: n % 12, Chans: 1 + n%2}
		b, e := raw.Write(c, d.Frame(c.Rate, c.Chans, 1+n%3))
		if e != api.OK {
			continue
		}
		for range d.Roll(3) {
			at := d.Roll(8 * len(b))
			b[at/8] ^= 128 >> (at % 8)
		}
		f, e := raw.Read(c, b)
		if e != api.OK {
			continue
		}
		many++
		if again, e := raw.Write(c, f); e != api.OK || !bytes.Equal(again, b) {
			t.Fatal(n, e)
		}
	}
	if many < 1000 {
		t.Error("too few bytes are read", many)
	}
}
