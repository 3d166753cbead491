// Package whole holds what goes through all layers: the rules, and the promises of the whole.
package whole

import (
	"bytes"
	"fmt"
	"math"
	"math/rand"
	"reflect"
	"slices"
	"testing"

	"reedpipe/adts"
	"reedpipe/api"
	"reedpipe/band"
	"reedpipe/bits"
	"reedpipe/block"
	"reedpipe/book"
	"reedpipe/crc"
	"reedpipe/dec"
	"reedpipe/enc"
	"reedpipe/fix"
	"reedpipe/huff"
	"reedpipe/ics"
	"reedpipe/info"
	"reedpipe/lane"
	"reedpipe/lap"
	"reedpipe/lose"
	"reedpipe/mdct"
	"reedpipe/mend"
	"reedpipe/mid"
	"reedpipe/noise"
	"reedpipe/pick"
	"reedpipe/power"
	"reedpipe/quant"
	"reedpipe/raw"
	"reedpipe/scale"
	"reedpipe/sect"
	"reedpipe/sync"
	"reedpipe/synth"
	"reedpipe/tale"
	"reedpipe/tns"
	"reedpipe/tnsbits"
	"reedpipe/trig"
	"reedpipe/window"
)

// calls are all that the chapters list.
func calls() []any {
	return []any{
		bits.Put, bits.Get, bits.Pack, bits.Unpack, crc.Of, crc.Over, fix.Round, fix.Clip, fix.Sqrt, fix.Cbrt, trig.Cos, trig.Sin, window.Half, band.Offsets, band.Of, band.Many,
		power.Four, power.Line, power.Quant, book.Get, book.Values, book.Entry, book.Code, book.Read, huff.Fits, huff.Put, huff.Get, huff.Cost, huff.Step, huff.Stepped, huff.StepCost,
		info.Check, info.After, info.Windows, info.Group, info.Put, info.Get, info.Same, info.Twin, mdct.Forward, mdct.Inverse, block.Window, block.Analyse, block.Synth, lap.New, lap.Check, lap.Next,
		quant.Lines, quant.Quantise, tns.Predict, tns.Forward, tns.Back, noise.Seed, noise.Band, mid.Split, mid.Join, lane.Check, lane.Zero, lane.Book, lane.Same, lane.Twin,
		sect.Check, sect.Put, sect.Get, scale.Check, scale.Put, scale.Get, tnsbits.Check, tnsbits.Put, tnsbits.Get, ics.Put, ics.Get, raw.Check, raw.Bits, raw.Write, raw.Read, raw.Same, raw.Twin, mend.Mend,
		adts.Head, adts.Write, adts.Read, adts.Size, sync.Scan, pick.Attack, pick.Seq, pick.Bits, pick.Sections, pick.Chan, pick.Frame, enc.New, enc.Check, enc.Next, enc.All,
		synth.Lines, synth.New, synth.Next, synth.All, lose.Seq, lose.Lines, dec.Play, dec.Decode, tale.Tell, tale.Words,
	}
}

func pickOf[T any](r *rand.Rand, l ...T) T { return l[r.Intn(len(l))] }

// thing is any value of a type, often one that may be.
func thing(r *rand.Rand, t reflect.Type, depth int) reflect.Value {
	v := reflect.New(t).Elem()
	switch t.Kind() {
	case reflect.Int:
		v.SetInt(int64(pickOf(r, r.Intn(3), r.Intn(14), pickOf(r, 31, 32, 40, 41, 60, 63, 64, 255, 256, 511, 512, 2047, 8191, 8192, -1, -8, 1<<28, -1<<28, 1<<62, math.MaxInt, math.MinInt))))
	case reflect.Uint8:
		v.SetUint(uint64(pickOf(r, r.Intn(2), r.Intn(4), r.Intn(256))))
	case reflect.Uint32:
		v.SetUint(uint64(r.Uint32()))
	case reflect.Bool:
		v.SetBool(r.Intn(2) == 0)
	case reflect.String:
		s := ""
		for range r.Intn(6) {
			s += pickOf(r, "config 0 1 1 300\n", "still\n", "wave 9 9\n", "find\n", "play\n", "drop 3 1\n", "add 0 9\n", "zero 7\n", "turn 9 9\n", " ", "\n", "\xff")
		}
		v.SetString(s)
	case reflect.Slice:
		n := pickOf(r, 0, 1, 1, 2, 3, 8)
		if t.Elem().Kind() == reflect.Int && r.Intn(2) == 0 {
			n = pickOf(r, 32, 64, 256, 256, 512)
		}
		if depth == 0 && t.Elem().Kind() == reflect.Uint8 {
			n = r.Intn(600)
		}
		v.Set(reflect.MakeSlice(t, n, n+r.Intn(3)))
		small := r.Intn(2) == 0
		for i := range n {
			if small && t.Elem().Kind() == reflect.Int {
				v.Index(i).SetInt(int64(r.Intn(3) - 1))
			} else {
				v.Index(i).Set(thing(r, t.Elem(), depth+1))
			}
		}
	case reflect.Struct:
		for i := range t.NumField() {
			v.Field(i).Set(thing(r, t.Field(i).Type, depth+1))
		}
	}
	return v
}

// TestRules holds R1, R2 and what holds of errors and memory: whatever a call is handed, it ends, and changes nothing of it; handed the same it answers the same; beside an error all else is zero.
func TestRules(t *testing.T) {
	r := rand.New(rand.NewSource(1))
	for n, f := range calls() {
		call := reflect.ValueOf(f)
		for range 80 {
			var in []reflect.Value
			for i := range call.Type().NumIn() {
				in = append(in, thing(r, call.Type().In(i), 0))
			}
			was := fmt.Sprintf("%#v", in)
			out := call.Call(in)
			if fmt.Sprintf("%#v", in) != was {
				t.Fatal(n, call.Type(), "changes an argument", was)
			}
			again := call.Call(in)
			last := out[len(out)-1]
			for i, o := range out {
				if !reflect.DeepEqual(o.Interface(), again[i].Interface()) {
					t.Fatal(n, call.Type(), "answers two things", was)
				}
				empty := o.IsZero() || o.Kind() == reflect.Slice && o.Len() == 0
				if last.Type() == reflect.TypeFor[api.Errno]() && last.Int() != 0 && i < len(out)-1 && !empty {
					t.Fatal(n, call.Type(), "answers more beside an error", was)
				}
			}
		}
	}
}

// sounds are turns of a kind: tones, the same of both channels or not, or strokes in silence.
func sounds(kind, chans, many int) (l []api.Turn, all [][]int) {
	all = make([][]int, chans)
	for f := range many {
		var turn api.Turn
		for c := range chans {
			var pcm []int
			for n := range 256 {
				x := float64(256*f + n)
				v := 0.0
				switch kind {
				case 0:
					v = 12000 * math.Sin(x/7)
				case 1:
					v = 12000*math.Sin(x/7) + 100*float64(c)*math.Sin(x/3)
				case 2:
					v = 8000*math.Sin(x/20+float64(c)) + 3000*math.Sin(x/3) + 1000*math.Sin(x)
				case 3:
					if (256*f+n)%1000 > 900 {
						v = 20000 * math.Sin(x*x/100)
					}
				}
				pcm = append(pcm, int(v))
			}
			turn.Pcm = append(turn.Pcm, pcm)
			all[c] = append(all[c], pcm...)
		}
		l = append(l, turn)
	}
	return l, all
}

// TestThrough holds W1 and W3, and that what comes out is what went in, a frame later, the nearer the more bits there are.
func TestThrough(t *testing.T) {
	for kind, least := range []float64{30, 30, 26, 13} {
		for chans := 1; chans <= 2; chans++ {
			c := api.Config{Rate: 5, Chans: chans, Crc: kind%2 == 0, Bits: 300 * chans}
			turns, all := sounds(kind, chans, 30)
			b, records, e := enc.All(c, turns)
			if e != api.OK {
				t.Fatal(kind, e)
			}
			slots, e := sync.Scan(c, b)
			if e != api.OK || len(slots) != 30 {
				t.Fatal(kind, len(slots), e)
			}
			at := 0
			for n, s := range slots {
				if s.Lost || s.At != at || !raw.Same(s.Frame, records[n]) {
					t.Fatal(kind, n, s.At, s.Lost)
				}
				at += s.Len
			}
			if limit := 30*300*chans/8 + 30*adts.Size(c.Crc); at != len(b) || len(b) > limit {
				t.Error(kind, len(b), limit)
			}
			out, e := dec.Decode(c, b)
			if plain, _ := synth.All(c, records); e != api.OK || !slices.EqualFunc(out, plain, func(a, b []int) bool { return slices.Equal(a, b) }) {
				t.Fatal(kind, e)
			}
			signal, wrong := 0.0, 0.0
			for ch := range out {
				for n := 512; n < len(out[ch]); n++ {
					v := float64(all[ch][n-256])
					d := float64(out[ch][n]) - v
					signal, wrong = signal+v*v, wrong+d*d
				}
			}
			if db := 10 * math.Log10(signal/wrong); db < least {
				t.Error(kind, chans, db)
			}
		}
	}
}

// TestAnyBytes holds W3 for bytes without a plan, and for those of frames that are cut, turned and put together anew.
func TestAnyBytes(t *testing.T) {
	r := rand.New(rand.NewSource(2))
	turns, _ := sounds(3, 1, 12)
	c := api.Config{Rate: 2, Chans: 1, Bits: 200}
	b, _, _ := enc.All(c, turns)
	for n := range 60 {
		hurt := bytes.Clone(b)
		for range r.Intn(20) {
			at := r.Intn(len(hurt) - 1)
			switch r.Intn(3) {
			case 0:
				hurt[at] = byte(r.Intn(256))
			case 1:
				hurt = slices.Delete(hurt, at, at+1)
			case 2:
				hurt = slices.Insert(hurt, at, 255, byte(r.Intn(256)))
			}
		}
		slots, _ := sync.Scan(c, hurt)
		out, e := dec.Decode(c, hurt)
		if e != api.OK || len(out) != 1 || len(out[0]) != 256*len(slots) {
			t.Error(n, e)
		}
	}
}
