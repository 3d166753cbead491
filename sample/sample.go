// Package sample makes records for tests: of many kinds, without a plain pattern, and the same each time.
package sample

import (
	"slices"

	"reedpipe/api"
	"reedpipe/band"
)

const (
	maxGain  = 255
	stepFar  = 60
	longest  = 63
	shortLen = 15
	shortTop = 7 // coefficients of a short window's filter
)

// Dice are numbers that go on from one another.
type Dice uint32

// Roll is a number from 0 to below n.
func (d *Dice) Roll(n int) int {
	*d = *d*1664525 + 1013904223
	return int(*d>>8) % n
}

// Windows are some that may be at a rate.
func (d *Dice) Windows(rate int) api.Info {
	i := api.Info{Seq: uint8(d.Roll(4)), Shape: uint8(d.Roll(2)), Groups: []int{1}}
	most, _ := band.Many(rate, i.Seq == api.Shorts)
	i.Max = d.Roll(most + 1)
	if i.Seq == api.Shorts {
		i.Groups = nil
		for left := api.Windows; left > 0; {
			n := 1 + d.Roll(left)
			i.Groups = append(i.Groups, n)
			left -= n
		}
	}
	return i
}

// Record is a channel's that may be, of these windows; bits it may have too many.
func (d *Dice) Record(rate int, i api.Info) api.Chan {
	c := api.Chan{Gain: d.Roll(maxGain + 1), Info: i, Lines: make([]int, api.Long)}
	offsets, _ := band.Offsets(rate, i.Seq == api.Shorts)
	step, noise := c.Gain, d.Roll(api.MaxNoise+1)
	window := 0
	for _, many := range i.Groups {
		sections := d.sections(i.Max)
		var steps []int
		b := 0
		for _, s := range sections {
			for range s.Len {
				steps = append(steps, d.step(s.Book, &step, &noise))
				for w := window; w < window+many; w++ {
					d.fill(s.Book, c.Lines[w*api.Short+offsets[b]:w*api.Short+offsets[b+1]])
				}
				b++
			}
		}
		c.Sections, c.Steps = append(c.Sections, sections), append(c.Steps, steps)
		window += many
	}
	for range window {
		c.Tns = append(c.Tns, d.Filters(i.Seq == api.Shorts))
	}
	return c
}

// Filters are some of a window that may be.
func (d *Dice) Filters(short bool) []api.Filter {
	many, length, order, half := 3, longest, api.MaxOrder, 4<<d.Roll(2)
	if short {
		many, length, order = 1, shortLen, shortTop
	}
	var out []api.Filter
	for range d.Roll(many + 1) {
		f := api.Filter{Len: d.Roll(length + 1), Order: d.Roll(order + 1), Fine: half > 4}
		f.Down = f.Order > 0 && d.Roll(2) == 1
		for range f.Order {
			f.Coefs = append(f.Coefs, d.Roll(2*half)-half)
		}
		out = append(out, f)
	}
	return out
}

// Frame is one that may be, but for its bits; these are few where a channel has few bands.
func (d *Dice) Frame(rate, chans, bands int) api.Frame {
	var f api.Frame
	for range chans {
		i := d.Windows(rate)
		i.Max = min(i.Max, bands)
		f.Chans = append(f.Chans, d.Record(rate, i))
	}
	if chans == 2 && d.Roll(3) > 0 {
		i := f.Chans[0].Info
		i.Groups = slices.Clone(i.Groups)
		f.Chans[1] = d.Record(rate, i)
		f.Common, f.Mask = true, d.Roll(3)
		if f.Mask == 1 {
			f.Bands = d.bands(i)
		}
	}
	if d.Roll(2) == 1 {
		f.Fill = make([]byte, []int{1, 2, 14, 15, 16, 29}[d.Roll(6)])
		for n := range f.Fill {
			f.Fill[n] = byte(d.Roll(256))
		}
	}
	return f
}

func (d *Dice) sections(bands int) []api.Section {
	var out []api.Section
	for left := bands; left > 0; {
		s := api.Section{Book: d.Roll(api.Escape + 2), Len: 1 + d.Roll(left)}
		if s.Book > api.Escape {
			s.Book = api.Noise
		}
		out = append(out, s)
		left -= s.Len
	}
	return out
}

// step is one of a band of a book, not too far from the one ahead.
func (d *Dice) step(book int, step, noise *int) int {
	far := d.Roll(2*stepFar+1) - stepFar
	switch book {
	case 0:
		return 0
	case api.Noise:
		*noise = max(0, min(api.MaxNoise, *noise+far))
		return *noise
	}
	*step = max(0, min(api.MaxStep, *step+far))
	return *step
}

// fill puts lines that fit a book.
func (d *Dice) fill(book int, lines []int) {
	limits := []int{0, 1, 1, 2, 2, 4, 4, 7, 7, 12, 12, api.MaxQuant, 0, 0}
	for n := range lines {
		lines[n] = d.Roll(2*limits[book]+1) - limits[book]
	}
}

func (d *Dice) bands(i api.Info) [][]bool {
	out := make([][]bool, len(i.Groups))
	for g := range out {
		for range i.Max {
			out[g] = append(out[g], d.Roll(2) == 1)
		}
	}
	return out
}
