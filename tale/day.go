package tale

import (
	"slices"
	"strings"

	"reedpipe/api"
	"reedpipe/dec"
	"reedpipe/enc"
	"reedpipe/lane"
	"reedpipe/sync"
)

const (
	noiseTimes = 1103515245
	noiseMore  = 12345
	noiseWhole = 1 << 31
	noiseShift = 65536
	noiseHalf  = 16384

	byteWhole = 256
	sumMask   = 65535
)

// day is what a day has: its config and encoder, if any, and its bytes. What was told of these bytes is kept till they change, as to look again takes long.
type day struct {
	config api.Config
	set    bool
	pen    api.Pen
	bytes  []byte
	found  string
	played string
}

// command is what a line's first word stands for: how many numbers are behind it, and what it does with them.
type command struct {
	many int
	do   func(n []int) string
}

// commands are all that there are, by their words.
func (d *day) commands() map[string]any {
	return map[string]any{
		setting: command{4, d.configure},
		"still": command{0, d.framed(d.still)},
		"wave":  command{2, d.framed(d.wave)},
		"noise": command{1, d.framed(d.noise)},
		"zero":  command{1, d.framed(d.zero)},
		"turn":  command{2, d.changed(d.turn)},
		"drop":  command{2, d.changed(d.drop)},
		"add":   command{2, d.changed(d.add)},
		"size":  command{0, func([]int) string { return blanked(len(d.bytes)) }},
		"find":  command{0, kept(&d.found, d.find)},
		"play":  command{0, kept(&d.played, d.play)},
	}
}

func (d *day) configure(n []int) string {
	c := api.Config{Rate: n[0], Chans: n[1], Crc: n[2] != 0, Bits: n[3]}
	pen, e := enc.New(c)
	if e != api.OK {
		return failed(e)
	}
	d.config, d.set, d.pen = c, true, pen
	d.put(nil)
	return well
}

// put has other bytes in place of those that were.
func (d *day) put(b []byte) {
	d.bytes, d.found, d.played = b, "", ""
}

// kept makes a closure that looks only where nothing is kept.
func kept(text *string, look func() string) func([]int) string {
	return func([]int) string {
		if *text == "" {
			*text = look()
		}
		return *text
	}
}

// framed makes a closure that encodes the turn that another one makes.
func (d *day) framed(turn func(n []int) (api.Turn, api.Errno)) func(n []int) string {
	return func(n []int) string {
		t, e := turn(n)
		if e != api.OK {
			return failed(e)
		}
		pen, b, f, e := enc.Next(d.config, d.pen, t)
		if e != api.OK {
			return failed(e)
		}
		d.pen = pen
		d.put(append(d.bytes, b...))
		told := []int{len(b)}
		for _, c := range f.Chans {
			told = append(told, int(c.Info.Seq))
		}
		return blanked(append(told, pen.Spare)...)
	}
}

// changed makes a closure that changes bytes as another one tells.
func (d *day) changed(to func(at, n int) ([]byte, api.Errno)) func(n []int) string {
	return func(n []int) string {
		b, e := to(n[0], n[1])
		if e != api.OK {
			return failed(e)
		}
		d.put(b)
		return well
	}
}

func (d *day) still([]int) (api.Turn, api.Errno) {
	t := api.Turn{Pcm: make([][]int, d.config.Chans)}
	for c := range t.Pcm {
		t.Pcm[c] = make([]int, api.Long)
	}
	return t, api.OK
}

func (d *day) wave(n []int) (api.Turn, api.Errno) {
	if n[1] == 0 {
		return api.Turn{}, api.ErrArg
	}
	t, e := d.still(nil)
	for c, l := range t.Pcm {
		for i := range l {
			l[i] = n[0]
			if (i+c)/n[1]%2 == 1 {
				l[i] = -n[0]
			}
		}
	}
	return t, e
}

func (d *day) noise(n []int) (api.Turn, api.Errno) {
	t, e := d.still(nil)
	x := n[0]
	for _, l := range t.Pcm {
		for i := range l {
			x = (noiseTimes*x + noiseMore) % noiseWhole
			l[i] = x/noiseShift - noiseHalf
		}
	}
	return t, e
}

func (d *day) zero(n []int) (api.Turn, api.Errno) {
	t, e := d.still(nil)
	// A sequence that has no byte is none, as one above 3 is.
	i := api.Info{Seq: uint8(min(n[0], byteWhole-1)), Groups: []int{1}}
	if i.Seq == api.Shorts {
		i.Groups[0] = api.Windows
	}
	t.Told = true
	for range d.config.Chans {
		var c api.Chan
		c, e = lane.Zero(d.config.Rate, i)
		t.Frame.Chans = append(t.Frame.Chans, c)
	}
	return t, e
}

func (d *day) turn(at, n int) ([]byte, api.Errno) {
	if at >= len(d.bytes) {
		return nil, api.ErrArg
	}
	b := slices.Clone(d.bytes)
	b[at] ^= byte(n % byteWhole)
	return b, api.OK
}

func (d *day) drop(at, n int) ([]byte, api.Errno) {
	if at+n > len(d.bytes) {
		return nil, api.ErrArg
	}
	return slices.Concat(d.bytes[:at], d.bytes[at+n:]), api.OK
}

func (d *day) add(at, n int) ([]byte, api.Errno) {
	if at > len(d.bytes) {
		return nil, api.ErrArg
	}
	return slices.Concat(d.bytes[:at], []byte{byte(n % byteWhole)}, d.bytes[at:]), api.OK
}

// find tells of each slot of the bytes.
func (d *day) find() string {
	l, e := sync.Scan(d.config, d.bytes)
	if e != api.OK {
		return failed(e)
	}
	if len(l) == 0 {
		return "none"
	}
	var out []string
	for _, s := range l {
		told := blanked(s.At, s.Len)
		if s.Lost {
			told += " lost"
		}
		out = append(out, told)
	}
	return strings.Join(out, ",")
}

// play tells of the samples of the bytes.
func (d *day) play() string {
	l, e := dec.Decode(d.config, d.bytes)
	if e != api.OK {
		return failed(e)
	}
	told := []int{len(l[0])}
	for _, samples := range l {
		least, greatest, sum := 0, 0, 0
		if len(samples) > 0 {
			least, greatest = slices.Min(samples), slices.Max(samples)
		}
		for n, v := range samples {
			sum += v * (n + 1)
		}
		// The lowest bits are the rest of a sum below 0, too.
		told = append(told, least, greatest, sum&sumMask)
	}
	return blanked(told...)
}
