package lane_test

import (
	"math"
	"slices"
	"testing"

	"reedpipe/api"
	"reedpipe/info"
	"reedpipe/lane"
	"reedpipe/sample"
)

func TestMay(t *testing.T) {
	d := sample.Dice(1)
	for n := range 4000 {
		rate := n % 12
		c := d.Record(rate, d.Windows(rate))
		if e := lane.Check(rate, c); e != api.OK {
			t.Fatal(n, e, c)
		}
		for _, rate := range []int{-1, 12, math.MinInt, math.MaxInt} {
			if e := lane.Check(rate, c); e != api.ErrArg {
				t.Fatal(n, e)
			}
		}
		// P18.4: any line with its sign turned, or away; no filters; no lines.
		for range 10 {
			at := d.Roll(256)
			c.Lines[at] = -c.Lines[at]
			if e := lane.Check(rate, c); e != api.OK {
				t.Error(n, at, e)
			}
			c.Lines[at] = 0
			if e := lane.Check(rate, c); e != api.OK {
				t.Error(n, at, e)
			}
		}
		c.Tns = make([][]api.Filter, len(c.Tns))
		clear(c.Lines)
		if e := lane.Check(rate, c); e != api.OK {
			t.Error(n, e)
		}
	}
	if e := lane.Check(12, api.Chan{}); e != api.ErrArg {
		t.Error(e)
	}
	if e := lane.Check(0, api.Chan{}); e != api.ErrBad {
		t.Error(e)
	}
}

// base is a long record at rate 0 (bands of four lines): books 1, 11, 0, 13, 7, 13, a band each.
func base() api.Chan {
	c := api.Chan{
		Gain:     100,
		Info:     api.Info{Max: 6, Groups: []int{1}},
		Sections: [][]api.Section{{{Book: 1, Len: 1}, {Book: 11, Len: 1}, {Book: 0, Len: 1}, {Book: 13, Len: 1}, {Book: 7, Len: 1}, {Book: 13, Len: 1}}},
		Steps:    [][]int{{160, 220, 0, 511, 160, 451}},
		Tns:      [][]api.Filter{{{Len: 63, Order: 12, Down: true, Coefs: []int{-4, 3, 0, 0, 0, 0, 0, 0, 0, 0, 0, 0}}, {Len: 0}, {Order: 1, Coefs: []int{1}}}},
		Lines:    make([]int, 256),
	}
	copy(c.Lines, []int{1, -1, 0, 1, 8191, -8191, 16, 0, 0, 0, 0, 0, 0, 0, 0, 0, 7, -7, 0, 1})
	return c
}

// shorts is one of short windows at rate 0, in two groups; book 3 goes on from group to group.
func shorts() api.Chan {
	c := api.Chan{
		Gain:     255,
		Info:     api.Info{Seq: 2, Max: 2, Groups: []int{3, 5}},
		Sections: [][]api.Section{{{Book: 3, Len: 2}}, {{Book: 13, Len: 1}, {Book: 3, Len: 1}}},
		Steps:    [][]int{{195, 135}, {0, 75}},
		Tns:      make([][]api.Filter, 8),
		Lines:    make([]int, 256),
	}
	c.Tns[7] = []api.Filter{{Len: 15, Order: 7, Fine: true, Coefs: []int{-8, 7, 0, 0, 0, 0, 0}}}
	for w := 0; w < 8; w++ {
		if w < 3 {
			c.Lines[32*w] = 2
		}
		c.Lines[32*w+7] = -2
	}
	return c
}

func TestMayNot(t *testing.T) {
	if lane.Check(0, base()) != api.OK || lane.Check(0, shorts()) != api.OK {
		t.Fatal("the records that are changed may not be")
	}
	far := []int{math.MinInt, math.MaxInt}
	type change func(c *api.Chan)
	gain := func(n int) change { return func(c *api.Chan) { c.Gain = n } }
	section := func(g, n int, s api.Section) change { return func(c *api.Chan) { c.Sections[g][n] = s } }
	step := func(g, b, n int) change { return func(c *api.Chan) { c.Steps[g][b] = n } }
	line := func(n, v int) change { return func(c *api.Chan) { c.Lines[n] = v } }
	filter := func(w, n int, f api.Filter) change { return func(c *api.Chan) { c.Tns[w][n] = f } }
	long := []change{
		gain(-1), gain(256), gain(99), gain(far[0]), gain(far[1]),
		section(0, 0, api.Section{Book: 12, Len: 1}), section(0, 0, api.Section{Book: 14, Len: 1}), section(0, 0, api.Section{Book: -1, Len: 1}), section(0, 2, api.Section{Book: 12, Len: 1}),
		section(0, 0, api.Section{Book: 1, Len: 0}), section(0, 0, api.Section{Book: 1, Len: 2}), section(0, 5, api.Section{Book: 13, Len: 2}), section(0, 2, api.Section{Book: 0, Len: -1}), section(0, 5, api.Section{Book: 13, Len: far[1]}), section(0, 0, api.Section{Book: 1, Len: far[0]}),
		func(c *api.Chan) { c.Sections = nil },
		func(c *api.Chan) { c.Sections = append(c.Sections, nil) },
		func(c *api.Chan) { c.Sections[0] = c.Sections[0][:5] },
		func(c *api.Chan) { c.Sections[0] = append(c.Sections[0], api.Section{Book: 0, Len: 1}) },
		func(c *api.Chan) { c.Sections[0] = append(c.Sections[0], api.Section{Book: 0, Len: 0}) },
		func(c *api.Chan) { c.Info.Max = 5 },
		func(c *api.Chan) { c.Info.Max = 7 },
		func(c *api.Chan) { c.Info.Seq = 4 },
		func(c *api.Chan) { c.Info.Groups = nil },
		step(0, 0, 161), step(0, 0, 39), step(0, 1, 221), step(0, 1, 99), step(0, 4, 159), step(0, 2, 1), step(0, 2, -1), step(0, 3, 512), step(0, 3, -1), step(0, 5, 450), step(0, 3, 390), step(0, 0, far[0]), step(0, 1, far[1]), step(0, 3, far[1]), step(0, 5, far[0]), step(0, 2, far[0]),
		func(c *api.Chan) { c.Steps = nil },
		func(c *api.Chan) { c.Steps = append(c.Steps, nil) },
		func(c *api.Chan) { c.Steps[0] = c.Steps[0][:5] },
		func(c *api.Chan) { c.Steps[0] = append(c.Steps[0], 0) },
		func(c *api.Chan) { c.Gain, c.Steps[0][0], c.Steps[0][1] = 255, 256, 220 },
		func(c *api.Chan) { c.Gain, c.Steps[0][0] = 0, -1 },
		filter(0, 0, api.Filter{Len: 64}), filter(0, 0, api.Filter{Len: -1}), filter(0, 0, api.Filter{Order: 13, Coefs: make([]int, 13)}), filter(0, 0, api.Filter{Order: -1}), filter(0, 1, api.Filter{Order: 1}), filter(0, 1, api.Filter{Coefs: []int{0}}), filter(0, 1, api.Filter{Down: true}), filter(0, 1, api.Filter{Fine: true}), filter(0, 2, api.Filter{Fine: true}), filter(0, 0, api.Filter{Fine: true}),
		filter(0, 1, api.Filter{Order: 1, Coefs: []int{4}}), filter(0, 1, api.Filter{Order: 1, Coefs: []int{-5}}), filter(0, 1, api.Filter{Order: 1, Coefs: far[:1]}), filter(0, 0, api.Filter{Len: far[1]}), filter(0, 0, api.Filter{Order: far[1]}),
		func(c *api.Chan) { c.Tns = nil },
		func(c *api.Chan) { c.Tns = append(c.Tns, nil) },
		func(c *api.Chan) { c.Tns[0] = append(c.Tns[0], api.Filter{}) },
		func(c *api.Chan) { c.Tns[0] = []api.Filter{{Order: 1, Fine: true, Coefs: []int{8}}} },
		func(c *api.Chan) { c.Tns[0] = []api.Filter{{Order: 1, Fine: true, Coefs: []int{-9}}} },
		func(c *api.Chan) { c.Lines = c.Lines[:255] },
		func(c *api.Chan) { c.Lines = append(c.Lines, 0) },
		func(c *api.Chan) { c.Lines = nil },
		line(0, 2), line(0, -2), line(4, 8192), line(4, -8192), line(8, 1), line(11, -1), line(12, 1), line(15, -1), line(16, 8), line(16, -8), line(20, 1), line(24, 1), line(28, -1), line(255, 1), line(4, far[0]), line(0, far[1]), line(100, far[0]),
	}
	for n, change := range long {
		c := base()
		change(&c)
		if e := lane.Check(0, c); e != api.ErrBad {
			t.Error("long", n, e)
		}
	}
	short := []change{
		gain(254 - 120), section(0, 0, api.Section{Book: 3, Len: 1}), section(1, 0, api.Section{Book: 13, Len: 2}), section(1, 1, api.Section{Book: 12, Len: 1}),
		step(0, 0, 194), step(0, 1, 134), step(1, 1, 74), step(1, 1, 196), step(1, 0, 512), step(1, 0, -1),
		func(c *api.Chan) { c.Sections = c.Sections[:1] },
		func(c *api.Chan) { c.Steps = c.Steps[:1] },
		func(c *api.Chan) { c.Info.Groups = []int{8} },
		func(c *api.Chan) { c.Info.Max = 6 },
		filter(7, 0, api.Filter{Len: 16}), filter(7, 0, api.Filter{Order: 8, Coefs: make([]int, 8)}), filter(7, 0, api.Filter{Len: 63}),
		func(c *api.Chan) { c.Tns = c.Tns[:7] },
		func(c *api.Chan) { c.Tns[7] = append(c.Tns[7], c.Tns[7][0]) },
		func(c *api.Chan) { c.Tns[0] = []api.Filter{{Down: true}} },
		line(0, 3), line(7, -3), line(8, 1), line(31, 1), line(96, 1), line(99, -1), line(227, 1), line(231, 3), line(232, 1), line(255, 1),
	}
	for n, change := range short {
		c := shorts()
		change(&c)
		if e := lane.Check(0, c); e != api.ErrBad {
			t.Error("short", n, e)
		}
	}
	fits := []change{
		gain(100), gain(101), step(0, 0, 161-1), step(0, 3, 400), step(0, 3, 391), step(0, 5, 511), line(0, -1), line(16, -7), line(4, 8191),
		func(c *api.Chan) { c.Sections[0][3].Len, c.Sections[0][4] = 1, api.Section{Book: 7, Len: 1} },
		func(c *api.Chan) { c.Tns[0] = []api.Filter{{Fine: true}, {Fine: true, Order: 1, Coefs: []int{-8}}} },
		func(c *api.Chan) { c.Tns[0] = nil },
	}
	for n, change := range fits {
		c := base()
		change(&c)
		if e := lane.Check(0, c); e != api.OK {
			t.Error("fits", n, e)
		}
	}
}

// TestQuiet holds what of sections and steps may not be in a record of nothing, where nothing else gives it away.
func TestQuiet(t *testing.T) {
	for n, change := range []func(c *api.Chan){
		func(c *api.Chan) { c.Gain = 256 },
		func(c *api.Chan) { c.Gain = -1 },
		func(c *api.Chan) { c.Sections[0][0].Book = 12 },
		func(c *api.Chan) { c.Sections[0][0].Book = 14 },
		func(c *api.Chan) { c.Sections[0][0].Book = -1 },
		func(c *api.Chan) { c.Sections[0][0].Len = 2 },
		func(c *api.Chan) { c.Sections[0] = nil },
		func(c *api.Chan) { c.Sections[0] = append(c.Sections[0], api.Section{}) },
		func(c *api.Chan) { c.Sections = nil },
		func(c *api.Chan) {
			c.Sections[0], c.Steps[0], c.Sections = nil, nil, append(c.Sections, nil)
			c.Info.Max = 0
		},
		func(c *api.Chan) { c.Sections, c.Steps[0] = nil, nil; c.Info.Max = 0 },
		func(c *api.Chan) { c.Sections[0], c.Steps = nil, nil; c.Info.Max = 0 },
		func(c *api.Chan) { c.Sections[0][0].Book, c.Steps[0] = 13, []int{0, 61, 61} },
		func(c *api.Chan) { c.Sections[0][0].Book, c.Steps[0] = 13, []int{61, 0, 0} },
		func(c *api.Chan) { c.Sections[0][0].Book, c.Steps[0] = 13, []int{60, 0, 61} },
	} {
		c, _ := lane.Zero(0, api.Info{Max: 3, Groups: []int{1}})
		change(&c)
		if e := lane.Check(0, c); e != api.ErrBad {
			t.Error(n, e)
		}
	}
	c, _ := lane.Zero(0, api.Info{Max: 3, Groups: []int{1}})
	c.Sections[0][0].Book, c.Steps[0] = 13, []int{0, 60, 0}
	if e := lane.Check(0, c); e != api.OK {
		t.Error(e)
	}
}

// TestBooks holds a line of each size against each book.
func TestBooks(t *testing.T) {
	limits := []int{0, 1, 1, 2, 2, 4, 4, 7, 7, 12, 12, 8191, 0, 0}
	for book, limit := range limits {
		if book == 12 {
			continue
		}
		for _, v := range []int{0, 1, 2, 3, 4, 5, 7, 8, 12, 13, 16, 8191, 8192} {
			for _, v := range []int{v, -v} {
				c := base()
				c.Sections[0][4].Book, c.Steps[0] = book, []int{160, 160, 0, 300, 0, 300}
				if book != 0 {
					c.Steps[0][4] = 200
				}
				if book == 13 {
					c.Steps[0][4] = 300
				}
				copy(c.Lines[16:], []int{0, 0, 0, v})
				want := api.ErrBad
				if v <= limit && v >= -limit {
					want = api.OK
				}
				if e := lane.Check(0, c); e != want {
					t.Error(book, v, e)
				}
			}
		}
	}
}

func TestZero(t *testing.T) {
	d := sample.Dice(3)
	for n := range 300 {
		i := d.Windows(n % 12)
		c, e := lane.Zero(n%12, i)
		if e != api.OK || c.Gain != 0 || !info.Same(c.Info, i) || len(c.Sections) != len(i.Groups) || len(c.Steps) != len(i.Groups) || !slices.Equal(c.Lines, make([]int, 256)) {
			t.Fatal(i, c, e)
		}
		if windows, _ := info.Windows(i); len(c.Tns) != windows {
			t.Error(i, c.Tns)
		}
		for _, l := range c.Tns {
			if len(l) != 0 {
				t.Error(i, l)
			}
		}
		for g := range i.Groups {
			want := []api.Section{{Book: 0, Len: i.Max}}
			if i.Max == 0 {
				want = nil
			}
			if !slices.Equal(c.Sections[g], want) || !slices.Equal(c.Steps[g], make([]int, i.Max)) {
				t.Error(i, c)
			}
		}
		if e := lane.Check(n%12, c); e != api.OK {
			t.Error(i, e)
		}
	}
	for rate, want := range map[int]api.Errno{-1: api.ErrArg, 12: api.ErrArg, 0: api.ErrBad, 11: api.ErrBad} {
		if c, e := lane.Zero(rate, api.Info{Max: 41, Groups: []int{1}}); e != want || !lane.Same(c, api.Chan{}) {
			t.Error(rate, c, e)
		}
	}
	if c, e := lane.Zero(0, api.Info{Max: 3, Groups: []int{1}}); e != api.OK || lane.Check(0, c) != api.OK {
		t.Error(c, e)
	} else {
		c.Lines[0] = 1
		if e := lane.Check(0, c); e != api.ErrBad {
			t.Error(e)
		}
		c.Sections[0][0].Book = 1
		if e := lane.Check(0, c); e != api.OK {
			t.Error(e)
		}
	}
}

func TestBook(t *testing.T) {
	most := math.MaxInt
	l := [][]api.Section{{{Book: 1, Len: 2}, {Book: 13, Len: 3}}, {}, {{Book: 5, Len: 0}, {Book: 6, Len: -3}, {Book: 99, Len: 1}, {Book: 7, Len: math.MinInt}, {Book: -4, Len: 2}}, {{Book: 1, Len: most}, {Book: 2, Len: most}}}
	for i, c := range []struct {
		group, band, want int
		e                 api.Errno
	}{
		{0, 0, 1, api.OK}, {0, 1, 1, api.OK}, {0, 2, 13, api.OK}, {0, 4, 13, api.OK}, {0, 5, 0, api.ErrArg}, {0, -1, 0, api.ErrArg},
		{1, 0, 0, api.ErrArg}, {2, 0, 99, api.OK}, {2, 1, -4, api.OK}, {2, 2, -4, api.OK}, {2, 3, 0, api.ErrArg},
		{3, most - 1, 1, api.OK}, {3, most, 2, api.OK}, {3, math.MinInt, 0, api.ErrArg},
		{-1, 0, 0, api.ErrArg}, {4, 0, 0, api.ErrArg}, {math.MinInt, 0, 0, api.ErrArg}, {most, 0, 0, api.ErrArg}, {0, most, 0, api.ErrArg},
	} {
		if got, e := lane.Book(l, c.group, c.band); got != c.want || e != c.e {
			t.Error(i, got, e)
		}
	}
	if got, e := lane.Book(nil, 0, 0); got != 0 || e != api.ErrArg {
		t.Error(got, e)
	}
}

func TestSame(t *testing.T) {
	d := sample.Dice(9)
	for n := range 200 {
		c := d.Record(n%12, d.Windows(n%12))
		b := lane.Twin(c)
		if !lane.Same(c, b) || !lane.Same(b, c) {
			t.Fatal(n)
		}
	}
	for i, change := range []func(c *api.Chan){
		func(c *api.Chan) { c.Gain++ },
		func(c *api.Chan) { c.Info.Seq++ },
		func(c *api.Chan) { c.Info.Shape++ },
		func(c *api.Chan) { c.Info.Max++ },
		func(c *api.Chan) { c.Info.Groups[0]++ },
		func(c *api.Chan) { c.Sections[0][5].Book++ },
		func(c *api.Chan) { c.Sections[0][5].Len++ },
		func(c *api.Chan) { c.Sections[0] = c.Sections[0][:5] },
		func(c *api.Chan) { c.Sections = append(c.Sections, nil) },
		func(c *api.Chan) { c.Steps[0][5]++ },
		func(c *api.Chan) { c.Steps[0] = c.Steps[0][:5] },
		func(c *api.Chan) { c.Steps = append(c.Steps, nil) },
		func(c *api.Chan) { c.Tns[0][2].Len++ },
		func(c *api.Chan) { c.Tns[0][2].Order++ },
		func(c *api.Chan) { c.Tns[0][2].Down = true },
		func(c *api.Chan) { c.Tns[0][2].Fine = true },
		func(c *api.Chan) { c.Tns[0][2].Coefs[0]++ },
		func(c *api.Chan) { c.Tns[0][2].Coefs = nil },
		func(c *api.Chan) { c.Tns[0] = c.Tns[0][:2] },
		func(c *api.Chan) { c.Tns = append(c.Tns, nil) },
		func(c *api.Chan) { c.Lines[255]++ },
		func(c *api.Chan) { c.Lines = c.Lines[:255] },
	} {
		// What is changed in the twin is not changed in the record: both lists are new.
		c := base()
		b := lane.Twin(c)
		change(&b)
		if lane.Same(c, b) || lane.Same(b, c) || !lane.Same(c, base()) {
			t.Error(i)
		}
	}
	bare := api.Chan{Info: api.Info{Groups: []int{}}, Sections: [][]api.Section{}, Steps: [][]int{}, Tns: [][]api.Filter{}, Lines: []int{}}
	if !lane.Same(bare, api.Chan{}) || !lane.Same(lane.Twin(api.Chan{}), bare) {
		t.Error("lists without elements")
	}
	some := api.Chan{Sections: [][]api.Section{nil, {}}, Steps: [][]int{{}}, Tns: [][]api.Filter{nil}}
	if !lane.Same(lane.Twin(some), some) || lane.Same(some, bare) {
		t.Error("lists of such lists")
	}
}

// TestMemory holds P18.3.
func TestMemory(t *testing.T) {
	c := base()
	lane.Check(0, c)
	lane.Same(c, c)
	lane.Book(c.Sections, 0, 3)
	if !lane.Same(c, base()) {
		t.Error("written to")
	}
	i := api.Info{Seq: 2, Max: 3, Groups: []int{4, 4}}
	z, _ := lane.Zero(0, i)
	z.Info.Groups[0] = 9
	z.Steps[0][0], z.Sections[0][0].Book = 9, 9
	_ = append(z.Steps[0], 7)
	if i.Groups[0] != 4 || z.Steps[1][0] != 0 || z.Sections[1][0].Book != 0 {
		t.Error("shares")
	}
}
