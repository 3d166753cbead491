package lane

import (
	"reedpipe/api"
	"reedpipe/band"
	"reedpipe/huff"
	"reedpipe/info"
)

const (
	mostStep    = 60 // how far a step may be from the one ahead
	lastOfFours = 4  // books up to this one have four values an entry
)

// bounds are what filters of a kind of windows may be.
type bounds struct {
	many, len, order int
}

// sectionsMay tells whether sections of all groups take all bands.
func sectionsMay(c api.Chan) bool {
	if len(c.Sections) != len(c.Info.Groups) {
		return false
	}
	for _, l := range c.Sections {
		left := c.Info.Max
		for _, s := range l {
			if s.Len < 1 || s.Len > left || !bookMay(s.Book) {
				return false
			}
			left -= s.Len
		}
		if left != 0 {
			return false
		}
	}
	return true
}

func bookMay(book int) bool {
	return book >= 0 && book <= api.Escape || book == api.Noise
}

// stepsMay tells whether each step may be, and is near enough to the one ahead; steps of noise go on from one another.
func stepsMay(c api.Chan) bool {
	if len(c.Steps) != len(c.Info.Groups) {
		return false
	}
	ahead, noise := c.Gain, -1
	for g, l := range c.Steps {
		if len(l) != c.Info.Max {
			return false
		}
		for b, step := range l {
			switch book, _ := Book(c.Sections, g, b); book {
			case 0:
				if step != 0 {
					return false
				}
			case api.Noise:
				if step < 0 || step > api.MaxNoise || noise >= 0 && !near(noise, step) {
					return false
				}
				noise = step
			default:
				if step < 0 || step > api.MaxStep || !near(ahead, step) {
					return false
				}
				ahead = step
			}
		}
	}
	return true
}

func near(ahead, step int) bool {
	return step-ahead <= mostStep && ahead-step <= mostStep
}

func filtersMay(c api.Chan) bool {
	windows, _ := info.Windows(c.Info)
	if len(c.Tns) != windows {
		return false
	}
	most := bounds{many: 3, len: 63, order: api.MaxOrder}
	if c.Info.Seq == api.Shorts {
		most = bounds{many: 1, len: 15, order: 7}
	}
	for _, l := range c.Tns {
		if len(l) > most.many {
			return false
		}
		for _, f := range l {
			if f.Fine != l[0].Fine || !filterMay(f, most) {
				return false
			}
		}
	}
	return true
}

func filterMay(f api.Filter, most bounds) bool {
	if f.Len < 0 || f.Len > most.len || f.Order < 0 || f.Order > most.order || len(f.Coefs) != f.Order || f.Order == 0 && f.Down {
		return false
	}
	low, high := -4, 3
	if f.Fine {
		low, high = -8, 7
	}
	for _, c := range f.Coefs {
		if c < low || c > high {
			return false
		}
	}
	return true
}

func linesMay(rate int, c api.Chan) bool {
	if len(c.Lines) != api.Long {
		return false
	}
	offsets, _ := band.Offsets(rate, c.Info.Seq == api.Shorts)
	windows, _ := info.Windows(c.Info)
	for w := range windows {
		group, _ := info.Group(c.Info, w)
		lines := c.Lines[w*api.Short:]
		for b, from := range offsets[:len(offsets)-1] {
			book := 0
			if b < c.Info.Max {
				book, _ = Book(c.Sections, group, b)
			}
			for _, v := range lines[from:offsets[b+1]] {
				if !lineMay(book, v) {
					return false
				}
			}
		}
	}
	return true
}

// lineMay tells whether a line, alone, fits a book.
func lineMay(book, v int) bool {
	if book < 1 || book > api.Escape {
		return v == 0
	}
	var alone [lastOfFours]int
	alone[0] = v
	values := alone[:2]
	if book <= lastOfFours {
		values = alone[:]
	}
	fits, _ := huff.Fits(book, values)
	return fits
}
