package pick

import (
	"reedpipe/api"
	"reedpipe/band"
	"reedpipe/book"
	"reedpipe/huff"
	"reedpipe/info"
	"reedpipe/sect"
)

const (
	bookBits    = 4
	longField   = 5
	shortField  = 3
	lastOfFours = 4  // books up to this one have four values an entry, those behind it two
	none        = -1 // bits where there are none
)

// Bits are those of sections, and of the lines in them.
func Bits(rate int, i api.Info, l [][]api.Section, q []int) (int, api.Errno) {
	if e := info.Check(rate, i); e != api.OK {
		return 0, e
	}
	if e := sect.Check(i, l); e != api.OK {
		return 0, e
	}
	if e := checkLines(q, api.MaxQuant); e != api.OK {
		return 0, e
	}
	p := newPrices()
	offsets, _ := band.Offsets(rate, i.Seq == api.Shorts)
	all := 0
	for g, sections := range l {
		from := 0
		for _, s := range sections {
			all += sectionBits(i, s.Len)
			for b := from; b < from+s.Len; b++ {
				n := p.bandBits(offsets, i, g, b, s.Book, q)
				if n == none {
					return 0, api.ErrBad
				}
				all += n
			}
			from += s.Len
		}
	}
	return all, api.OK
}

// Sections are the least ones of each group.
func Sections(rate int, i api.Info, q []int) ([][]api.Section, api.Errno) {
	if e := info.Check(rate, i); e != api.OK {
		return nil, e
	}
	if e := checkLines(q, api.MaxQuant); e != api.OK {
		return nil, e
	}
	offsets, _ := band.Offsets(rate, i.Seq == api.Shorts)
	return newPrices().least(offsets, i, q), api.OK
}

// sectionBits are those of a section of so many bands, without its lines.
func sectionBits(i api.Info, length int) int {
	field := longField
	if i.Seq == api.Shorts {
		field = shortField
	}
	return bookBits + field*(length/(1<<field-1)+1)
}

// code is what is put by one code: values, and by which book.
type code struct {
	id     int
	values [lastOfFours]int
}

// prices are the books, and what codes cost that were asked for: they are asked for again and again while a frame's base is looked for.
type prices struct {
	books [api.Escape + 1]api.Book
	known map[code]int
}

func newPrices() *prices {
	p := &prices{known: map[code]int{}}
	for id := 1; id <= api.Escape; id++ {
		p.books[id], _ = book.Get(id)
	}
	return p
}

// cost is how many bits some values have by a book that they fit.
func (p *prices) cost(id int, values []int) int {
	k := code{id: id}
	copy(k.values[:], values)
	n, ok := p.known[k]
	if !ok {
		n, _ = huff.Cost(p.books[id], values)
		p.known[k] = n
	}
	return n
}

// bandBits are a band's bits by a book, in all windows of a group; none, if its lines do not fit.
func (p *prices) bandBits(offsets []int, i api.Info, group, b, id int, q []int) int {
	if id > api.Escape {
		return none
	}
	all := 0
	for l := range inGroup(offsets, i, group, b, q) {
		n := p.lineBits(id, l)
		if n == none {
			return none
		}
		all += n
	}
	return all
}

// lineBits are those of the lines of a band in one window.
func (p *prices) lineBits(id int, l []int) int {
	if id == 0 {
		for _, v := range l {
			if v != 0 {
				return none
			}
		}
		return 0
	}
	many := 2
	if id <= lastOfFours {
		many = 4
	}
	all := 0
	for ; len(l) > 0; l = l[many:] {
		if fits, _ := huff.Fits(id, l[:many]); !fits {
			return none
		}
		all += p.cost(id, l[:many])
	}
	return all
}

// least are the least sections of each group.
func (p *prices) least(offsets []int, i api.Info, q []int) [][]api.Section {
	out := make([][]api.Section, len(i.Groups))
	for g := range out {
		first := p.firsts(offsets, i, g, q)
		for b := 0; b < i.Max; b += first[b].Len {
			out[g] = append(out[g], first[b])
		}
	}
	return out
}

// firsts are, of each band of a group, the first of the least sections from there on. They are found from the last band back: what is behind a section is the least already.
func (p *prices) firsts(offsets []int, i api.Info, group int, q []int) []api.Section {
	costs := make([][api.Escape + 1]int, i.Max)
	for b := range costs {
		for id := range costs[b] {
			costs[b][id] = p.bandBits(offsets, i, group, b, id, q)
		}
	}
	best := make([]int, i.Max+1)
	first := make([]api.Section, i.Max)
	for b := i.Max - 1; b >= 0; b-- {
		var run [api.Escape + 1]int
		for length := 1; b+length <= i.Max; length++ {
			head := sectionBits(i, length) + best[b+length]
			for id, more := range costs[b+length-1] {
				if more == none || run[id] == none {
					run[id] = none
					continue
				}
				run[id] += more
				if all := head + run[id]; first[b] == (api.Section{}) || all < best[b] {
					best[b], first[b] = all, api.Section{Book: id, Len: length}
				}
			}
		}
	}
	return first
}
