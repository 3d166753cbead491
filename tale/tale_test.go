package tale_test

import (
	"fmt"
	"slices"
	"strings"
	"testing"

	"reedpipe/api"
	"reedpipe/dec"
	"reedpipe/enc"
	"reedpipe/lane"
	"reedpipe/sync"
	"reedpipe/tale"
)

// tells holds a day, with strokes between lines, to what it tells.
func tells(t *testing.T, day, want string) {
	t.Helper()
	text := strings.ReplaceAll(day, " / ", "\n") + "\n"
	told := strings.ReplaceAll(want, "; ", "\n") + "\n"
	if got := tale.Tell(text); got != told {
		t.Errorf("%s: %q", day, got)
	}
	// What stands behind the last line's end is a line, too, if it is not empty.
	if got := tale.Tell(text[:len(text)-1]); got != told {
		t.Errorf("%s, without its last byte: %q", day, got)
	}
}

func TestExamples(t *testing.T) {
	tells(t, "config 0 1 0 40 / zero 0 / zero 0 / size / find / play", "well; 11 0 8; 11 0 16; 22; 0 11,11 11; 512 0 0 0")
	tells(t, "config 0 1 0 40 / zero 1 / zero 2 / zero 3", "well; 11 1 8; 12 2 8; 11 3 16")
	tells(t, "config 0 1 1 32 / zero 0 / turn 12 1 / find / play", "well; 13 0 0; well; 0 13 lost; 256 0 0 0")
	tells(t, "config 0 1 0 40 / zero 0 / zero 0 / drop 0 1 / find", "well; 11 0 8; 11 0 16; well; 10 11")
	tells(t, "config 0 1 0 40 / zero 0 / add 0 7 / size / find", "well; 11 0 8; well; 12; 1 11")
	tells(t, "config 0 2 0 56 / zero 0 / size / play", "well; 14 0 0 0; 14; 256 0 0 0 0 0 0")
	tells(t, "config 0 1 0 2000", "error 2")
	tells(t, "config 12 1 0 0", "error 2")
	tells(t, "config 0 3 0 0", "error 2")
	tells(t, "size / find / zero 0", "error 6; error 6; error 6")
	tells(t, "config 0 1 0 40 / wave 1 0 / wave 40000 1 / turn 0 1 / drop 0 1 / add 1 0 / find / play", "well; error 2; error 2; error 2; error 2; error 2; none; 0 0 0 0")
	if got := tale.Tell("config 0 1 0\nstill 1\nzero\nzero 9\ntick\n\n"); got != "usage\nusage\nusage\nerror 6\nusage\n" {
		t.Errorf("%q", got)
	}
}

func TestWords(t *testing.T) {
	want := []string{"add", "config", "drop", "find", "noise", "play", "size", "still", "turn", "wave", "zero"}
	w := tale.Words()
	if !slices.Equal(w, want) {
		t.Error(w)
	}
	clear(w)
	if w := tale.Words(); !slices.Equal(w, want) {
		t.Error(w)
	}
}

func TestUsage(t *testing.T) {
	for _, line := range []string{
		" ", "  ", " size", "size ", "Size", "sizes", "\tsize", "size\r", "size 1", "size  ", "find 0", "play 0", "still 0", "config", "config 0 1 0", "config 0 1 0 40 0", "config  0 1 0 40", "config 0 1 0 40 ", "config 0  1 0", "config 0 1 0 x", "config 0 1 0 -1", "config 0 1 0 +1", "config 0 1 0 1.0", "config 0 1 0 1234567", "config 0 1 0 0000040", "config ٠ 1 0 40",
		"wave 1", "wave 1 2 3", "wave 1 x", "wave -1 2", "noise", "noise 1 2", "noise 0x1", "zero", "zero 0 0", "zero ", "turn 0", "turn 0 1 2", "drop 0", "drop 0 1 2", "add 0", "add 0 1 2", "turn 0 1234567", "x", "0", "\x00", "siz\xff", "size\xff", "\xff 1", "é", "config 0 1 0 4\u00b2",
	} {
		if got := tale.Tell(line); got != "usage\n" {
			t.Errorf("%q: %q", line, got)
		}
		if got := tale.Tell("config 0 1 0 40\n" + line + "\nsize"); got != "well\nusage\n0\n" {
			t.Errorf("%q: %q", line, got)
		}
	}
	// Where there is no config: error 6 of all lines but config, if their words are right.
	for _, line := range []string{"still", "wave 1 0", "wave 1 1", "noise 1", "zero 0", "zero 9", "turn 0 0", "drop 0 0", "add 0 0", "size", "find", "play"} {
		if got := tale.Tell(line); got != "error 6\n" {
			t.Errorf("%q: %q", line, got)
		}
		if got := tale.Tell("config 12 1 0 40\n" + line); got != "error 2\nerror 6\n" {
			t.Errorf("%q: %q", line, got)
		}
	}
	if got := tale.Tell(""); got != "" {
		t.Errorf("%q", got)
	}
	if got := tale.Tell("\n\n\nsize\n\n"); got != "error 6\n" {
		t.Errorf("%q", got)
	}
	tells(t, "config 000000 000001 000000 000040 / zero 000000", "well; 11 0 8")
	tells(t, "config 0 1 999999 40 / zero 0", "well; 13 0 8")
}

func TestLetter(t *testing.T) {
	day := strings.Repeat("size\n", 819) + "\n"
	if len(day) != 4096 || tale.Tell(day) != strings.Repeat("error 6\n", 819) {
		t.Error("a day of 4096 bytes")
	}
	if got := tale.Tell(day + "\n"); got != "error 3\n" {
		t.Errorf("%q", got)
	}
	if got := tale.Tell(strings.Repeat("\n", 5000)); got != "error 3\n" {
		t.Errorf("%q", got)
	}
}

// world is a day gone over by its own calls.
type world struct {
	c   api.Config
	pen api.Pen
	b   []byte
}

func (w *world) frame(pcm func(c, i int) int) string {
	t := api.Turn{}
	for c := range w.c.Chans {
		var l []int
		for i := range 256 {
			l = append(l, pcm(c, i))
		}
		t.Pcm = append(t.Pcm, l)
	}
	return w.turn(t)
}

func (w *world) turn(t api.Turn) string {
	pen, b, f, e := enc.Next(w.c, w.pen, t)
	if e != api.OK {
		return fmt.Sprint("error ", int(e))
	}
	w.pen, w.b = pen, append(w.b, b...)
	told := fmt.Sprint(len(b))
	for _, c := range f.Chans {
		told += fmt.Sprint(" ", c.Info.Seq)
	}
	return told + fmt.Sprint(" ", pen.Spare)
}

func (w *world) find() string {
	l, _ := sync.Scan(w.c, w.b)
	var out []string
	for _, s := range l {
		told := fmt.Sprint(s.At, " ", s.Len)
		if s.Lost {
			told += " lost"
		}
		out = append(out, told)
	}
	if len(out) == 0 {
		return "none"
	}
	return strings.Join(out, ",")
}

func (w *world) play() string {
	l, _ := dec.Decode(w.c, w.b)
	told := fmt.Sprint(len(l[0]))
	for _, pcm := range l {
		sum := 0
		for n, v := range pcm {
			sum = (sum + v%65536*(n+1)%65536 + 65536) % 65536
		}
		low, high := 0, 0
		if len(pcm) > 0 {
			low, high = slices.Min(pcm), slices.Max(pcm)
		}
		told += fmt.Sprint(" ", low, " ", high, " ", sum)
	}
	return told
}

type dice uint32

func (d *dice) roll(n int) int {
	*d = *d*1664525 + 1013904223
	return int(*d>>8) % n
}

// line is one that does something, with what it tells.
func (w *world) line(d *dice) (line, told string) {
	a, b := d.roll(len(w.b)+3), d.roll(300)
	switch d.roll(12) {
	case 0:
		return "still", w.frame(func(c, i int) int { return 0 })
	case 1, 2:
		a, p := d.roll(33000), 1+d.roll(60)
		return fmt.Sprint("wave ", a, " ", p), w.frame(func(c, i int) int {
			if (i+c)/p%2 == 0 {
				return a
			}
			return -a
		})
	case 3, 4:
		s := d.roll(1000000)
		x := uint64(s)
		return fmt.Sprint("noise ", s), w.frame(func(c, i int) int {
			x = (1103515245*x + 12345) % (1 << 31)
			return int(x/65536) - 16384
		})
	case 5:
		q := d.roll(4)
		t := api.Turn{Told: true}
		for range w.c.Chans {
			i := api.Info{Seq: uint8(q), Groups: []int{1}}
			if q == 2 {
				i.Groups[0] = 8
			}
			c, _ := lane.Zero(w.c.Rate, i)
			t.Pcm, t.Frame.Chans = append(t.Pcm, make([]int, 256)), append(t.Frame.Chans, c)
		}
		return fmt.Sprint("zero ", q), w.turn(t)
	case 6:
		line = fmt.Sprint("turn ", a, " ", b)
		if a >= len(w.b) {
			return line, "error 2"
		}
		w.b[a] ^= byte(b % 256)
		return line, "well"
	case 7:
		b %= 30
		line = fmt.Sprint("drop ", a, " ", b)
		if b > 0 && a+b > len(w.b) || b == 0 && a > len(w.b) {
			return line, "error 2"
		}
		w.b = slices.Delete(w.b, a, a+b)
		return line, "well"
	case 8:
		line = fmt.Sprint("add ", a, " ", b)
		if a > len(w.b) {
			return line, "error 2"
		}
		w.b = slices.Insert(w.b, a, byte(b%256))
		return line, "well"
	case 9:
		return "size", fmt.Sprint(len(w.b))
	case 10:
		return "find", w.find()
	}
	return "play", w.play()
}

func TestDays(t *testing.T) {
	d := dice(1)
	for n := range 30 {
		w := &world{}
		var day, told string
		for range 20 {
			if w.c.Chans == 0 || d.roll(12) == 0 {
				w.c = api.Config{Rate: d.roll(12), Chans: 1 + d.roll(2), Crc: d.roll(2) == 1}
				w.c.Bits = d.roll(1537) * w.c.Chans
				sum := 0
				if w.c.Crc {
					sum = 1 + d.roll(9)
				}
				w.pen, _ = enc.New(w.c)
				w.b = nil
				day += fmt.Sprintln("config", w.c.Rate, w.c.Chans, sum, w.c.Bits)
				told += "well\n"
				continue
			}
			line, out := w.line(&d)
			day += line + "\n"
			told += out + "\n"
		}
		if got := tale.Tell(day); got != told {
			t.Fatalf("%d: %q\ntells %q\nnot   %q", n, day, got, told)
		}
		// P32.3: what a beginning tells begins what all tells.
		for at, r := range day {
			if r == '\n' && d.roll(8) == 0 && !strings.HasPrefix(told, tale.Tell(day[:at+1])) {
				t.Fatalf("%d: %q", n, day[:at+1])
			}
		}
	}
}

// TestFrames holds P32.4, and that a config begins anew.
func TestFrames(t *testing.T) {
	tells(t, "config 0 1 0 40 / zero 0 / config 3 2 1 0 / size / find / zero 1 / size", "well; 11 0 8; well; 0; none; 16 1 1 0; 16")
	tells(t, "config 0 1 0 40 / zero 0 / config 99 2 1 0 / size / zero 0", "well; 11 0 8; error 2; 11; 11 0 16")
	day := "config 7 2 1 900\n" + strings.Repeat("noise 5\nwave 30000 17\nstill\nzero 1\n", 4)
	told := strings.Split(tale.Tell(day+"find\nplay\n"), "\n")
	slots := strings.Split(told[17], ",")
	if len(slots) != 16 || strings.Contains(told[17], "lost") || !strings.HasPrefix(told[18], "4096 ") {
		t.Error(told)
	}
}

// TestLooks holds that lines that only look, and lines that tell an error, change nothing of what others tell.
func TestLooks(t *testing.T) {
	lines := []string{"config 2 1 1 300", "noise 3", "find", "wave 9000 9", "play", "turn 30 5", "find", "play", "drop 0 3", "find", "add 2 9", "still", "play", "size"}
	var want []string
	for _, l := range strings.Split(strings.TrimSuffix(tale.Tell(strings.Join(lines, "\n")), "\n"), "\n") {
		want = append(want, l)
	}
	for _, idle := range []string{"size", "find", "play", "wave 1 0", "wave 99999 1", "zero 9", "zero 4", "zero 256", "zero 258", "zero 999999", "turn 99999 1", "drop 0 99999", "drop 99999 1", "add 99999 0", "config 12 1 0 0", "config 0 1 0 1537", "tick", "still "} {
		var day []string
		for _, l := range lines {
			day = append(day, l, idle)
		}
		got := strings.Split(tale.Tell(strings.Join(day, "\n")), "\n")
		for n, l := range want {
			if got[2*n] != l {
				t.Fatalf("%s: line %d tells %q, not %q", idle, n, got[2*n], l)
			}
			if n == 0 {
				continue
			}
			first := map[byte]string{'s': "", 'f': "", 'p': "", 'w': "error 2", 'z': "error 8", 't': "error 2", 'd': "error 2", 'a': "error 2", 'c': "error 2"}[idle[0]]
			if idle == "tick" || idle == "still " {
				first = "usage"
			}
			if first != "" && got[2*n+1] != first {
				t.Fatalf("%s tells %q", idle, got[2*n+1])
			}
		}
	}
}

func TestEdges(t *testing.T) {
	tells(t, "config 0 1 0 40 / zero 0 / turn 10 1 / turn 11 1 / turn 10 257 / find", "well; 11 0 8; well; error 2; well; 0 11")
	tells(t, "config 0 1 0 40 / zero 0 / drop 10 1 / size / drop 10 0 / drop 10 1 / drop 0 10 / size", "well; 11 0 8; well; 10; well; error 2; well; 0")
	tells(t, "config 0 1 0 40 / add 0 511 / zero 0 / find / add 12 3 / add 14 0 / size", "well; well; 11 0 8; 1 11; well; error 2; 13")
	tells(t, "config 0 1 0 40 / wave 32767 1 / wave 32768 1 / wave 0 0 / wave 0 999999", "well; "+first("config 0 1 0 40 / wave 32767 1")+"; error 2; error 2; "+first("config 0 1 0 40 / wave 32767 1 / wave 0 999999"))
	tells(t, "config 0 1 0 0 / zero 3 / zero 3 / zero 2", "well; 11 0 0; 11 0 0; 11 0 0")
	tells(t, "config 0 1 0 1536 / still / still", "well; "+first("config 0 1 0 1536 / still")+"; "+first("config 0 1 0 1536 / still / still"))
}

// first is what the last line of a day tells.
func first(day string) string {
	l := strings.Split(strings.TrimSuffix(tale.Tell(strings.ReplaceAll(day, " / ", "\n")), "\n"), "\n")
	return l[len(l)-1]
}

// TestMany holds P32.1 to the last byte of what may be told: with as many frames as make what find tells fit, all but a few bytes, which "size" and "x" make up for.
func TestMany(t *testing.T) {
	const most = 1 << 20
	config, frame, find := "config 0 2 1 3072\n", "still\n", "find\n"
	told := strings.SplitAfter(tale.Tell(config+strings.Repeat(frame, 345)+find), "\n")
	all := strings.Split(strings.TrimSuffix(told[346], "\n"), ",")
	for n := 345; n > 320; n-- {
		list := strings.Join(all[:n], ",") + "\n"
		want := strings.Join(told[:n+1], "")
		finds := (most - len(want)) / len(list)
		want += strings.Repeat(list, finds)
		size := tale.Tell(config + strings.Repeat(frame, n) + "size\n")
		size = size[strings.LastIndex(strings.TrimSuffix(size, "\n"), "\n")+1:]
		usages := 0
		for (most-len(want)-6*usages)%len(size) != 0 && usages < 6 {
			usages++
		}
		sizes := (most - len(want) - 6*usages) / len(size)
		day := config + strings.Repeat(frame, n) + strings.Repeat(find, finds) + strings.Repeat("x\n", usages) + strings.Repeat("size\n", sizes)
		want += strings.Repeat("usage\n", usages) + strings.Repeat(size, sizes)
		if sizes < 0 || len(want) != most || len(day) > 4090 {
			continue
		}
		if got := tale.Tell(day); got != want {
			t.Error(len(got), "bytes, not all")
		}
		if got := tale.Tell(day + "x\n"); got != want+"many\n" {
			t.Error(len(got), "bytes, one line too many")
		}
		if got := tale.Tell(day + "x\nx\n\n"); got != want+"many\n" {
			t.Error(len(got), "bytes, two lines too many")
		}
		// One line more ahead, and the last one is beyond: one byte is as bad as many.
		day = config + strings.Repeat(frame, n) + strings.Repeat(find, finds) + strings.Repeat("x\n", usages+1) + strings.Repeat("size\n", sizes)
		want = strings.Replace(want, "usage\n", "usage\nusage\n", 1)
		if usages == 0 {
			want = want[:len(want)-sizes*len(size)] + "usage\n" + strings.Repeat(size, sizes)
		}
		for len(want) > most {
			want = want[:strings.LastIndex(strings.TrimSuffix(want, "\n"), "\n")+1]
		}
		if got := tale.Tell(day); got != want+"many\n" {
			t.Error(len(got), "bytes, the last line beyond")
		}
		return
	}
	t.Error("no day tells just as much as may be told")
}
