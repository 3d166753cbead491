package pick_test

import (
	"math"
	"math/bits"
	"slices"
	"testing"

	"reedpipe/api"
	"reedpipe/band"
	"reedpipe/block"
	"reedpipe/book"
	"reedpipe/huff"
	"reedpipe/info"
	"reedpipe/lane"
	"reedpipe/mid"
	"reedpipe/pick"
	"reedpipe/quant"
	"reedpipe/raw"
	"reedpipe/sample"
	"reedpipe/tns"
)

// dice are those of sample, with lines and sounds of their own.
type dice struct{ sample.Dice }

// lines are of many sizes, with runs of noughts, and runs of the same size.
func (d *dice) lines(most int) []int {
	out := make([]int, 256)
	for n := 0; n < 256; {
		size := []int{0, 0, 1, 1, 2, 4, 7, 12, 20, 8191, most}[d.Roll(11)]
		size = min(size, most)
		for end := min(256, n+1+d.Roll(20)); n < end; n++ {
			out[n] = d.Roll(2*size+1) - size
		}
	}
	return out
}

func one(n, at, v int) []int {
	out := make([]int, n)
	out[at] = v
	return out
}

func long(most int) api.Info { return api.Info{Max: most, Groups: []int{1}} }

func TestAttack(t *testing.T) {
	loud := func(pcm []int) bool {
		var e [8]int
		for n, v := range pcm {
			e[n/32] += v * v
		}
		for n := 1; n <= 7; n++ {
			sum := 0
			for _, v := range e[:n] {
				sum += v
			}
			if n*e[n] > 8*sum+n*1048576 {
				return true
			}
		}
		return false
	}
	d := dice{1}
	found := 0
	for n := range 3000 {
		pcm := make([]int, 256)
		size := 1 + d.Roll(400)
		for at := range pcm {
			if at%32 == 0 && d.Roll(6) == 0 {
				size = min(32767, size*(1+d.Roll(9))/2+1)
			}
			pcm[at] = d.Roll(2*size+1) - size
		}
		want := loud(pcm)
		if want {
			found++
		}
		if got, e := pick.Attack(pcm); got != want || e != api.OK {
			t.Error(n, got, e)
		}
	}
	if found < 300 || found > 2700 {
		t.Error(found, "begin loud")
	}
	// 32 squares of 181 are just below 2^20; one more is needed.
	for part := range 8 {
		pcm := make([]int, 256)
		pcm[32*part] = 1024
		if got, e := pick.Attack(pcm); got || e != api.OK {
			t.Error(part, got, e)
		}
		pcm[32*part+31] = 1
		if got, e := pick.Attack(pcm); got != (part > 0) || e != api.OK {
			t.Error(part, got, e)
		}
	}
	pcm := make([]int, 256)
	pcm[0], pcm[32] = 1024, 3072 // 9 times 2^20 is 8 times it, and it once more
	if got, _ := pick.Attack(pcm); got {
		t.Error("just as much")
	}
	pcm[63] = -1
	if got, _ := pick.Attack(pcm); !got {
		t.Error("one more")
	}
	for _, v := range []int{-32768, 32767} {
		if got, e := pick.Attack(slices.Repeat([]int{v}, 256)); got || e != api.OK {
			t.Error(v, got, e)
		}
	}
	for _, n := range []int{0, 255, 257, 512} {
		if got, e := pick.Attack(slices.Repeat([]int{99999}, n)); got || e != api.ErrMany {
			t.Error(n, e)
		}
	}
	for _, v := range []int{32768, -32769, math.MaxInt, math.MinInt} {
		for _, at := range []int{0, 100, 255} {
			if got, e := pick.Attack(one(256, at, v)); got || e != api.ErrArg {
				t.Error(at, v, e)
			}
		}
	}
}

func TestSeq(t *testing.T) {
	for was := 0; was < 256; was++ {
		for n := range 4 {
			now, next := n&1 == 1, n&2 == 2
			want, e := uint8(0), api.OK
			switch {
			case was > 3:
				e = api.ErrArg
			case was == 0 || was == 3:
				if next {
					want = 1
				}
			case now || next:
				want = 2
			default:
				want = 3
			}
			got, err := pick.Seq(uint8(was), now, next)
			if got != want || err != e {
				t.Error(was, now, next, got, err)
			}
			if e == api.OK && !info.After(uint8(was), got) {
				t.Error(was, now, next, "may not follow")
			}
		}
	}
}

// books are made once, as they take long.
func books() []api.Book {
	out := make([]api.Book, 12)
	for id := 1; id <= 11; id++ {
		out[id], _ = book.Get(id)
	}
	return out
}

// cost is a band's bits by a book, -1 if there are none.
func cost(all []api.Book, rate int, i api.Info, g, b, id int, q []int) int {
	o, _ := band.Offsets(rate, i.Seq == api.Shorts)
	n, size := 0, 2
	if id <= 4 {
		size = 4
	}
	for w := 0; w < 8; w++ {
		if at, e := info.Group(i, w); e != api.OK || at != g {
			continue
		}
		l := q[32*w+o[b] : 32*w+o[b+1]]
		for at := 0; at < len(l); at += size {
			if id == 0 || id > 11 {
				if slices.ContainsFunc(l, func(v int) bool { return v != 0 }) || id > 11 {
					return -1
				}
				continue
			}
			if fits, _ := huff.Fits(id, l[at:at+size]); !fits {
				return -1
			}
			more, _ := huff.Cost(all[id], l[at:at+size])
			n += more
		}
	}
	return n
}

func head(i api.Info, length int) int {
	if i.Seq == api.Shorts {
		return 4 + 3*(length/7+1)
	}
	return 4 + 5*(length/31+1)
}

// least goes over all first sections, and over the least ones behind each; the order decides among those of as many bits.
func least(i api.Info, costs [][]int, from int, known map[int][]api.Section, bitsOf map[int]int) ([]api.Section, int) {
	if from == i.Max {
		return nil, 0
	}
	if l, ok := known[from]; ok {
		return l, bitsOf[from]
	}
	var best []api.Section
	fewest := math.MaxInt
	for length := 1; from+length <= i.Max; length++ {
		behind, more := least(i, costs, from+length, known, bitsOf)
		for id := 0; id <= 11; id++ {
			n := head(i, length) + more
			for b := from; b < from+length && n >= 0; b++ {
				if costs[b][id] < 0 {
					n = -1
				} else {
					n += costs[b][id]
				}
			}
			if n >= 0 && n < fewest {
				fewest = n
				best = append([]api.Section{{Book: id, Len: length}}, behind...)
			}
		}
	}
	known[from], bitsOf[from] = best, fewest
	return best, fewest
}

func same(a, b [][]api.Section) bool {
	return slices.EqualFunc(a, b, func(a, b []api.Section) bool { return slices.Equal(a, b) })
}

func TestSections(t *testing.T) {
	d := dice{2}
	all := books()
	for n := range 120 {
		rate := n % 12
		i := d.Windows(rate)
		q := d.lines([]int{1, 2, 5, 15, 40, 8191}[d.Roll(6)])
		got, e := pick.Sections(rate, i, q)
		if e != api.OK || len(got) != len(i.Groups) {
			t.Fatal(n, got, e)
		}
		sum := 0
		for g := range i.Groups {
			var costs [][]int
			for b := range i.Max {
				var l []int
				for id := range 12 {
					l = append(l, cost(all, rate, i, g, b, id, q))
				}
				costs = append(costs, l)
			}
			want, fewest := least(i, costs, 0, map[int][]api.Section{}, map[int]int{})
			if !slices.Equal(got[g], want) {
				t.Fatal(n, g, got[g], want)
			}
			sum += fewest
		}
		if bits, e := pick.Bits(rate, i, got, q); bits != sum || e != api.OK {
			t.Error(n, bits, sum, e)
		}
	}
	if got, e := pick.Sections(0, long(3), make([]int, 256)); e != api.OK || !same(got, [][]api.Section{{{Book: 0, Len: 3}}}) {
		t.Error(got, e)
	}
	if got, e := pick.Sections(0, long(0), one(256, 0, 5)); e != api.OK || len(got) != 1 || len(got[0]) != 0 {
		t.Error(got, e)
	}
}

func TestBits(t *testing.T) {
	d := dice{3}
	all := books()
	for n := range 300 {
		rate := n % 12
		i := d.Windows(rate)
		q := d.lines([]int{1, 2, 5, 15, 8191}[d.Roll(5)])
		var l [][]api.Section
		want := 0
		for g := range i.Groups {
			var sections []api.Section
			for from := 0; from < i.Max; {
				s := api.Section{Book: d.Roll(14), Len: 1 + d.Roll(i.Max-from)}
				if s.Book == 12 {
					s.Book = 11
				}
				if d.Roll(2) == 0 {
					s.Book = 11
				}
				sections = append(sections, s)
				want += head(i, s.Len)
				for b := from; b < from+s.Len; b++ {
					more := cost(all, rate, i, g, b, s.Book, q)
					if more < 0 {
						want = math.MinInt / 2
					}
					want += more
				}
				from += s.Len
			}
			l = append(l, sections)
		}
		e := api.OK
		if want < 0 {
			want, e = 0, api.ErrBad
		}
		if got, err := pick.Bits(rate, i, l, q); got != want || err != e {
			t.Fatal(n, got, want, err)
		}
	}
	// Nothing is sent, or noise is: what noise has are no bits.
	if got, e := pick.Bits(0, long(2), [][]api.Section{{{Book: 13, Len: 2}}}, make([]int, 256)); got != 0 || e != api.ErrBad {
		t.Error(got, e)
	}
	if got, e := pick.Bits(0, long(2), [][]api.Section{{{Book: 0, Len: 2}}}, one(256, 8, 77)); got != 9 || e != api.OK {
		t.Error(got, e)
	}
	if got, e := pick.Bits(11, long(40), [][]api.Section{{{Book: 0, Len: 31}, {Book: 1, Len: 9}}}, make([]int, 256)); e != api.OK || got <= 14+9 {
		t.Error(got, e)
	}
}

func TestRefuses(t *testing.T) {
	some := [][]api.Section{{{Book: 1, Len: 3}}}
	for n, c := range []struct {
		rate int
		i    api.Info
		l    [][]api.Section
		q    []int
		e    api.Errno
	}{
		{-1, api.Info{}, nil, nil, api.ErrArg},
		{12, long(3), some, make([]int, 256), api.ErrArg},
		{0, api.Info{}, nil, nil, api.ErrBad},
		{0, long(23), some, nil, api.ErrBad},
		{0, long(3), some, nil, api.ErrMany},
		{0, long(3), some, slices.Repeat([]int{9999}, 255), api.ErrMany},
		{0, long(3), some, make([]int, 257), api.ErrMany},
		{0, long(3), some, one(256, 255, 8192), api.ErrArg},
		{0, long(3), some, one(256, 0, -8192), api.ErrArg},
		{0, long(3), some, one(256, 0, math.MinInt), api.ErrArg},
		{0, long(3), some, one(256, 0, math.MaxInt), api.ErrArg},
	} {
		if got, e := pick.Bits(c.rate, c.i, c.l, c.q); got != 0 || e != c.e {
			t.Error(n, got, e)
		}
		if got, e := pick.Sections(c.rate, c.i, c.q); len(got) != 0 || e != c.e {
			t.Error(n, got, e)
		}
	}
	for n, l := range [][][]api.Section{nil, {nil}, {{{Book: 1, Len: 2}}}, {{{Book: 12, Len: 3}}}, {{{Book: 1, Len: 4}}}, {{{Book: 1, Len: 3}}, nil}} {
		if got, e := pick.Bits(0, long(3), l, nil); got != 0 || e != api.ErrBad {
			t.Error(n, got, e)
		}
	}
	if got, e := pick.Bits(0, long(3), some, one(256, 5, 2)); got != 0 || e != api.ErrBad {
		t.Error(got, e)
	}
}

// channel is chapter 27's, told band by band.
func channel(rate int, i api.Info, x []int, base int) api.Chan {
	o, _ := band.Offsets(rate, i.Seq == api.Shorts)
	windows, _ := info.Windows(i)
	c := api.Chan{Info: i, Tns: make([][]api.Filter, windows)}
	var ids [][]int
	for g := range i.Groups {
		var steps []int
		for b := range i.Max {
			most := 0
			for w := range windows {
				if at, _ := info.Group(i, w); at == g {
					for _, v := range x[32*w+o[b] : 32*w+o[b+1]] {
						most = max(most, v, -v)
					}
				}
			}
			steps = append(steps, min(255, base+2*bits.Len(uint(most))))
		}
		c.Steps = append(c.Steps, steps)
		ids = append(ids, slices.Repeat([]int{11}, i.Max))
	}
	c.Lines, _ = quant.Quantise(rate, i, ids, c.Steps, x)
	c.Sections, _ = pick.Sections(rate, i, c.Lines)
	gain := -1
	for g := range i.Groups {
		for b := range i.Max {
			if id, _ := lane.Book(c.Sections, g, b); id == 0 {
				c.Steps[g][b] = 0
			} else if gain < 0 {
				gain = c.Steps[g][b]
			}
		}
	}
	c.Gain = max(gain, 0)
	return c
}

func TestChan(t *testing.T) {
	d := dice{4}
	for n := range 150 {
		rate := n % 12
		i := d.Windows(rate)
		x := d.lines([]int{0, 9, 300, 99999, api.MaxLine}[n%5])
		base := []int{0, 255, 60, 100, 140, 200}[d.Roll(6)]
		was := slices.Clone(x)
		got, e := pick.Chan(rate, i, x, base)
		if e != api.OK || !lane.Same(got, channel(rate, i, x, base)) {
			t.Fatal(n, e)
		}
		if e := lane.Check(rate, got); e != api.OK {
			t.Error(n, e)
		}
		if got.Lines[0] = 99; !slices.Equal(x, was) {
			t.Error(n, "written to")
		}
		got.Info.Groups[0] = 99
		if i.Groups[0] == 99 {
			t.Error(n, "shares")
		}
	}
	for n, c := range []struct {
		rate int
		i    api.Info
		x    []int
		base int
		e    api.Errno
	}{
		{-1, api.Info{}, nil, 256, api.ErrArg}, {12, long(1), make([]int, 256), 0, api.ErrArg}, {0, long(23), nil, 256, api.ErrBad},
		{0, long(1), nil, 256, api.ErrArg}, {0, long(1), nil, -1, api.ErrArg}, {0, long(1), nil, math.MaxInt, api.ErrArg},
		{0, long(1), nil, 255, api.ErrMany}, {0, long(1), make([]int, 255), 0, api.ErrMany}, {0, long(1), slices.Repeat([]int{1 << 28}, 257), 0, api.ErrMany},
		{0, long(1), one(256, 255, 1<<28), 0, api.ErrArg}, {0, long(1), one(256, 0, -1<<28), 0, api.ErrArg}, {0, long(1), one(256, 0, math.MinInt), 0, api.ErrArg},
	} {
		if got, e := pick.Chan(c.rate, c.i, c.x, c.base); e != c.e || !lane.Same(got, api.Chan{}) {
			t.Error(n, e)
		}
	}
}

// foretold are a channel's filters and lines as chapter 27 tells them.
func foretold(rate int, i api.Info, x []int) ([][]api.Filter, []int) {
	windows, _ := info.Windows(i)
	l := make([][]api.Filter, windows)
	if i.Seq != api.Shorts {
		o, _ := band.Offsets(rate, false)
		var less []int
		for _, v := range x[:o[i.Max]] {
			less = append(less, int(math.Floor(float64(v)/1024)))
		}
		r0, r1 := 0, 0
		for n, v := range less {
			r0 += v * v
			if n > 0 {
				r1 += v * less[n-1]
			}
		}
		if 2*r1 > r0 {
			l[0] = []api.Filter{{Len: i.Max, Order: 1, Coefs: []int{-2}}}
		} else if 2*r1 < -r0 {
			l[0] = []api.Filter{{Len: i.Max, Order: 1, Coefs: []int{2}}}
		}
	}
	y, _ := tns.Forward(rate, i, l, x)
	return l, y
}

// frame is chapter 27's: all bases are held against the one that halving comes to.
func frame(c api.Config, i []api.Info, x [][]int, budget int) api.Frame {
	var filters [][][]api.Filter
	var lines [][]int
	for n := range i {
		l, y := foretold(c.Rate, i[n], x[n])
		filters, lines = append(filters, l), append(lines, y)
	}
	var f api.Frame
	if c.Chans == 2 && info.Same(i[0], i[1]) {
		f.Common = true
		o, _ := band.Offsets(c.Rate, i[0].Seq == api.Shorts)
		windows, _ := info.Windows(i[0])
		many, yes := 0, 0
		for g := range i[0].Groups {
			var row []bool
			for b := range i[0].Max {
				differ, both := 0, 0
				var places []int
				for w := range windows {
					if at, _ := info.Group(i[0], w); at == g {
						for n := 32*w + o[b]; n < 32*w+o[b+1]; n++ {
							places = append(places, n)
						}
					}
				}
				for _, n := range places {
					l, r := lines[0][n], lines[1][n]
					differ += max(l-r, r-l)
					both += max(l, -l) + max(r, -r)
				}
				row = append(row, 2*differ < both)
				many++
				if 2*differ < both {
					yes++
					for _, n := range places {
						m, s, _ := mid.Split(lines[0][n:n+1], lines[1][n:n+1])
						lines[0][n], lines[1][n] = m[0], s[0]
					}
				}
			}
			f.Bands = append(f.Bands, row)
		}
		f.Mask = 1
		if yes == many {
			f.Mask = 2
		}
		if yes == 0 {
			f.Mask = 0
		}
		if f.Mask != 1 {
			f.Bands = nil
		}
	}
	with := func(base int) api.Frame {
		out := f
		for n := range i {
			ch, _ := pick.Chan(c.Rate, i[n], lines[n], base)
			ch.Tns = filters[n]
			out.Chans = append(out.Chans, ch)
		}
		return out
	}
	low, high := 0, 255
	for low < high {
		m := (low + high) / 2
		n, e := raw.Bits(c, with(m))
		if e == api.OK && n <= budget && raw.Check(c, with(m)) == api.OK {
			high = m
		} else {
			low = m + 1
		}
	}
	return with(low)
}

// sound are lines of two channels that are much the same in places.
func (d *dice) sound(kind int, i []api.Info) [][]int {
	var out [][]int
	for n := range i {
		pcm := make([]int, 512)
		for at := range pcm {
			switch kind % 5 {
			case 0:
				pcm[at] = d.Roll(65536) - 32768
			case 1:
				pcm[at] = (at%40 - 20) * 900
			case 2:
				pcm[at] = d.Roll(9) - 4
			case 3:
				pcm[at] = int(20000*math.Sin(float64(at*at)/3000)) + n*d.Roll(500)
			}
			if kind%5 == 4 && at == 300 {
				pcm[at] = 32767
			}
		}
		x, _ := block.Analyse(i[n].Seq, 0, i[n].Shape, pcm)
		out = append(out, x)
	}
	return out
}

func TestFrame(t *testing.T) {
	d := dice{5}
	masks, filters := map[int]int{}, map[int]int{}
	for n := range 70 {
		c := api.Config{Rate: n % 12, Chans: 1 + d.Roll(2), Crc: n%2 == 0, Bits: -n}
		var i []api.Info
		for range c.Chans {
			i = append(i, d.Windows(c.Rate))
		}
		if c.Chans == 2 && n%4 > 0 {
			i[1] = info.Twin(i[0])
		}
		x := d.sound(n, i)
		if n%7 == 0 {
			for at := range x {
				x[at] = d.lines(api.MaxLine)
			}
		}
		budget := []int{0, 60, 400, 700, 1200, 1536, 3072, 99999}[d.Roll(8)]
		was := [][]int{slices.Clone(x[0]), slices.Clone(x[len(x)-1])}
		got, e := pick.Frame(c, i, x, budget)
		if e != api.OK || !slices.Equal(x[0], was[0]) || !slices.Equal(x[len(x)-1], was[1]) {
			t.Fatal(n, e)
		}
		want := frame(c, i, x, budget)
		if !raw.Same(got, want) {
			t.Fatal(n, got.Mask, want.Mask, got.Chans[0].Gain, want.Chans[0].Gain)
		}
		if bits, e := raw.Bits(c, got); e != api.OK || bits > min(budget, 1536*c.Chans) && !atMost(got) {
			t.Error(n, bits, e)
		}
		masks[got.Mask]++
		for _, ch := range got.Chans {
			for _, l := range ch.Tns {
				for _, f := range l {
					filters[f.Coefs[0]]++
				}
			}
		}
	}
	if masks[0] == 0 || masks[1] == 0 || masks[2] == 0 || filters[2] == 0 || filters[-2] == 0 {
		t.Error("not of all kinds", masks, filters)
	}
}

// atMost tells whether all steps are the greatest.
func atMost(f api.Frame) bool {
	for _, c := range f.Chans {
		for _, l := range c.Steps {
			for _, v := range l {
				if v != 0 && v != 255 {
					return false
				}
			}
		}
	}
	return true
}

// TestFilters holds when lines have a filter, to the last bit: of lines that go on, or turn about, more than half.
func TestFilters(t *testing.T) {
	put := func(l ...int) []int { return append(l, make([]int, 256-len(l))...) }
	for n, s := range []struct {
		x    []int
		coef int
	}{
		{put(), 0},
		{put(1024), 0},
		{put(1024, 1024), 0}, // twice 1 is 2, and not more
		{put(1024, 1024, 1024), -2},
		{put(-1024, 1024), 0},
		{put(-1024, 1024, -1024), 2},
		{put(1023, 1023, 1023, 1023), 0}, // each is 0
		{put(2047, 1024, 1500), -2},
		{put(-1, -1, -1), -2}, // each is -1
		{put(-1024, -1024, 0, 5000, 0, -5000), 0},
		{put(0, 0, 0, 0, 9000, 9000, 9000, 9000), 0}, // behind what is sent
		{put(api.MaxLine, api.MaxLine, api.MaxLine, -api.MaxLine), 0},
		{put(api.MaxLine, api.MaxLine, api.MaxLine, api.MaxLine), -2},
		{put(-api.MaxLine, api.MaxLine, -api.MaxLine, api.MaxLine), 2},
	} {
		f, e := pick.Frame(api.Config{Chans: 1}, []api.Info{long(1)}, [][]int{s.x}, 1536)
		if e != api.OK {
			t.Fatal(n, e)
		}
		l := f.Chans[0].Tns[0]
		if s.coef == 0 && len(l) != 0 || s.coef != 0 && (len(l) != 1 || l[0].Len != 1 || l[0].Order != 1 || l[0].Down || l[0].Fine || l[0].Coefs[0] != s.coef) {
			t.Error(n, l)
		}
	}
	short := api.Info{Seq: 2, Max: 5, Groups: []int{8}}
	f, e := pick.Frame(api.Config{Chans: 1}, []api.Info{short}, [][]int{slices.Repeat([]int{5000}, 256)}, 1536)
	for _, l := range f.Chans[0].Tns {
		if e != api.OK || len(l) != 0 {
			t.Error("short windows have filters", l, e)
		}
	}
}

// TestMiddle holds what is middle and side to the last size: twice as much is not below as much.
func TestMiddle(t *testing.T) {
	c := api.Config{Chans: 2}
	i := []api.Info{long(2), long(2)}
	for n, s := range []struct {
		l, r []int // lines 0 and 4
		mask int
	}{
		{[]int{300, 300}, []int{100, 100}, 0}, // 2 times 400 is as much as 800: not below
		{[]int{301, 0}, []int{301, 0}, 1},
		{[]int{400, 400}, []int{400, 400}, 2},
		{[]int{300, 400}, []int{101, 400}, 2},
		{[]int{300, 400}, []int{100, 400}, 1},
		{[]int{301, 400}, []int{101, 400}, 2}, // 400 is below 402
		{[]int{300, 400}, []int{-300, -400}, 0},
		{[]int{0, 0}, []int{0, 0}, 0},
	} {
		x := [][]int{make([]int, 256), make([]int, 256)}
		x[0][0], x[0][4], x[1][0], x[1][4] = s.l[0], s.l[1], s.r[0], s.r[1]
		f, e := pick.Frame(c, i, x, 3072)
		if e != api.OK || !f.Common || f.Mask != s.mask {
			t.Error(n, f.Mask, e)
		}
		if s.mask == 1 && !slices.Equal(f.Bands[0], []bool{n == 1, n == 4}) || s.mask != 1 && len(f.Bands) != 0 {
			t.Error(n, f.Bands)
		}
	}
	f, e := pick.Frame(c, []api.Info{long(0), long(0)}, [][]int{make([]int, 256), make([]int, 256)}, 0)
	if e != api.OK || !f.Common || f.Mask != 0 {
		t.Error(f.Mask, e)
	}
	f, e = pick.Frame(c, []api.Info{long(2), long(3)}, [][]int{one(256, 0, 5000), one(256, 0, 5000)}, 999)
	if e != api.OK || f.Common || f.Mask != 0 {
		t.Error(f.Mask, e)
	}
}

func TestFrameRefuses(t *testing.T) {
	c, two := api.Config{Chans: 1}, api.Config{Chans: 2}
	i, x := []api.Info{long(1)}, [][]int{make([]int, 256)}
	ii, xx := []api.Info{long(1), long(1)}, [][]int{make([]int, 256), make([]int, 256)}
	for n, s := range []struct {
		c      api.Config
		i      []api.Info
		x      [][]int
		budget int
		e      api.Errno
	}{
		{api.Config{}, i, x, 0, api.ErrArg}, {api.Config{Chans: 3}, nil, nil, -1, api.ErrArg}, {api.Config{Rate: 12, Chans: 1}, nil, nil, 0, api.ErrArg}, {api.Config{Rate: -1, Chans: 1}, nil, nil, 0, api.ErrArg},
		{c, nil, x, 0, api.ErrMany}, {c, i, nil, -1, api.ErrMany}, {c, ii, x, 0, api.ErrMany}, {c, i, xx, 0, api.ErrMany}, {two, i, xx, 0, api.ErrMany}, {two, ii, x, 0, api.ErrMany}, {c, []api.Info{{}, {}}, x, 0, api.ErrMany},
		{c, []api.Info{{}}, [][]int{nil}, -1, api.ErrBad}, {two, []api.Info{long(1), long(23)}, xx, 0, api.ErrBad},
		{c, i, [][]int{nil}, -1, api.ErrMany}, {two, ii, [][]int{one(256, 0, 1<<28), make([]int, 255)}, -1, api.ErrMany},
		{two, ii, [][]int{make([]int, 256), one(256, 255, 1<<28)}, 0, api.ErrArg}, {c, i, [][]int{one(256, 0, math.MinInt)}, 0, api.ErrArg},
		{c, i, x, -1, api.ErrArg}, {c, i, x, math.MinInt, api.ErrArg},
	} {
		if f, e := pick.Frame(s.c, s.i, s.x, s.budget); e != s.e || !raw.Same(f, api.Frame{}) {
			t.Error(n, e)
		}
	}
	if f, e := pick.Frame(c, i, x, math.MaxInt); e != api.OK || raw.Check(c, f) != api.OK {
		t.Error(e)
	}
}
