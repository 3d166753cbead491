package raw

import (
	"reedpipe/api"
	"reedpipe/bits"
	"reedpipe/ics"
	"reedpipe/info"
)

// Read is the frame whose bytes these are.
func Read(c api.Config, b []byte) (api.Frame, api.Errno) {
	if !configMay(c) {
		return api.Frame{}, api.ErrArg
	}
	if len(b) > api.MaxFrame/byteBits*c.Chans {
		return api.Frame{}, api.ErrText
	}
	all, _ := bits.Unpack(b)
	r := reader{b: all, rate: c.Rate}
	var f api.Frame
	r.expect(c.Chans-1, elementBits)
	r.expect(0, placeBits)
	if c.Chans == 1 {
		f.Chans = []api.Chan{r.channel(false, api.Info{})}
	} else {
		r.both(&f)
	}
	f.Fill = r.rest()
	if r.e != api.OK {
		return api.Frame{}, r.e
	}
	return f, api.OK
}

// reader is where a frame is read; once there was an error, it stays, and all else that is read is nothing.
type reader struct {
	b    []byte
	at   int
	rate int
	e    api.Errno
}

func (r *reader) fail() {
	if r.e == api.OK {
		r.e = api.ErrBad
	}
}

func (r *reader) get(size int) int {
	if r.e != api.OK {
		return 0
	}
	n, next, e := bits.Get(r.b, r.at, size)
	r.at, r.e = next, e
	return n
}

// expect gets a number that has to be n.
func (r *reader) expect(n, size int) {
	if r.get(size) != n {
		r.fail()
	}
}

// channel gets one; if it is common, its windows are i.
func (r *reader) channel(common bool, i api.Info) api.Chan {
	if r.e != api.OK {
		return api.Chan{}
	}
	c, next, e := ics.Get(r.b, r.at, r.rate, common, i)
	r.at, r.e = next, e
	return c
}

// both gets what two channels have in common, and them.
func (r *reader) both(f *api.Frame) {
	var i api.Info
	f.Common = r.get(1) == 1
	if f.Common {
		i = r.windows()
		f.Mask = r.get(maskBits)
		if f.Mask > mostMask {
			r.fail()
		}
		if f.Mask == 1 {
			f.Bands = r.bands(i)
		}
	}
	first := r.channel(f.Common, i)
	f.Chans = []api.Chan{first, r.channel(f.Common, i)}
}

func (r *reader) windows() api.Info {
	if r.e != api.OK {
		return api.Info{}
	}
	i, next, e := info.Get(r.b, r.at, r.rate)
	r.at, r.e = next, e
	return i
}

// bands gets which bands are middle and side.
func (r *reader) bands(i api.Info) [][]bool {
	out := make([][]bool, len(i.Groups))
	for g := range out {
		out[g] = make([]bool, i.Max)
		for b := range out[g] {
			out[g][b] = r.get(1) == 1
		}
	}
	return out
}

// rest gets what is behind the channels, to the last bit, and answers the bytes that fill the frame.
func (r *reader) rest() []byte {
	var fill []byte
	switch r.get(elementBits) {
	case filled:
		fill = r.fill()
		r.expect(ended, elementBits)
		fallthrough
	case ended:
		r.noughts()
	default:
		r.fail()
	}
	return fill
}

// fill gets the bytes that fill a frame; how many there are is told in one way only.
func (r *reader) fill() []byte {
	many := r.get(countBits)
	if many == fullCount {
		more := r.get(moreBits)
		if more == 0 {
			r.fail()
		}
		many += more - 1
	}
	if many == 0 {
		r.fail()
	}
	var out []byte
	for range many {
		out = append(out, byte(r.get(byteBits)))
	}
	return out
}

// noughts gets what makes whole bytes, which has to be all.
func (r *reader) noughts() {
	if r.e != api.OK {
		return
	}
	if len(r.b)-r.at >= byteBits {
		r.fail()
	}
	r.expect(0, len(r.b)-r.at)
}
