package vcd

import (
	"bytes"
	"fmt"
	"regexp"
	"slices"
	"strconv"
	"strings"
	"testing"

	"inquest/api"
	"inquest/norm"
	"inquest/sample"
	"inquest/sim"
)

// shown answers a text of what Read answered: the error's number and all that is beside it, or the times, then each wave.
func shown(times []uint32, l []api.Wave, e api.Errno) string {
	var b strings.Builder
	if e != api.OK {
		fmt.Fprint(&b, "error ", int(e))
	}
	for _, n := range times {
		fmt.Fprint(&b, n, " ")
	}
	for _, w := range l {
		fmt.Fprint(&b, "/ ", w.Name, " ")
		for _, v := range w.Values {
			b.WriteByte("01x"[v])
		}
	}
	return b.String()
}

func read(s string) string { return shown(Read([]byte(s))) }

func failed(e api.Errno) string { return shown(nil, nil, e) }

// brief cuts a text that is too long to be told.
func brief(s string) string {
	if len(s) > 200 {
		return strconv.Quote(s[:100]) + " .. " + strconv.Quote(s[len(s)-100:])
	}
	return strconv.Quote(s)
}

func checkRead(t *testing.T, s, want string) {
	t.Helper()
	if got := read(s); got != want {
		t.Errorf("Read(%s) = %s, not %s", brief(s), brief(got), brief(want))
	}
}

// Forms of words, as the chapter says them.
var (
	codeForm   = regexp.MustCompile(`^[!-~]{1,8}$`)
	nameForm   = regexp.MustCompile(`^[!-~]{1,32}$`)
	timeForm   = regexp.MustCompile(`^#(0|[1-9][0-9]*)$`)
	changeForm = regexp.MustCompile(`^[01xXzZ][!-~]{1,8}$`)
	otherForm  = regexp.MustCompile(`^\$(comment|date|scope|timescale|upscope|version)$`)
)

// judge goes through the words with one place to stand in, and keeps all values of a wave at all times.
type judge struct {
	words  []string
	at     int
	codes  []string
	names  []string
	last   []byte
	times  []int
	values []string
	fault  api.Errno
}

func (j *judge) wrong(e api.Errno) {
	if j.fault == api.OK {
		j.fault = e
	}
}

// next answers the next word; none once something is wrong.
func (j *judge) next() string {
	if j.fault == api.OK && j.at == len(j.words) {
		j.wrong(api.ErrShort)
	}
	if j.fault != api.OK {
		return ""
	}
	j.at++
	return j.words[j.at-1]
}

func (j *judge) need(ok bool, e api.Errno) {
	if !ok {
		j.wrong(e)
	}
}

func (j *judge) skip() {
	for j.fault == api.OK && j.next() != "$end" {
	}
}

func (j *judge) head() {
	for j.fault == api.OK {
		switch w := j.next(); {
		case w == "$var":
			j.need(len(j.names) < 32768, api.ErrLimit)
			j.need(j.next() == "wire", api.ErrForm)
			j.need(j.next() == "1", api.ErrForm)
			code := j.next()
			j.need(codeForm.MatchString(code), api.ErrForm)
			j.need(!slices.Contains(j.codes, code), api.ErrTwice)
			name := j.next()
			j.need(nameForm.MatchString(name), api.ErrForm)
			j.need(j.next() == "$end", api.ErrForm)
			j.codes, j.names, j.last, j.values = append(j.codes, code), append(j.names, name), append(j.last, 'x'), append(j.values, "")
		case w == "$enddefinitions":
			j.need(j.next() == "$end", api.ErrForm)
			return
		case otherForm.MatchString(w):
			j.skip()
		default:
			j.wrong(api.ErrForm)
		}
	}
}

// settle tells the values at the last time.
func (j *judge) settle() {
	if len(j.times) == 0 {
		return
	}
	for i := range j.values {
		j.values[i] += string(j.last[i])
	}
}

func (j *judge) body() {
	dump := false
	for j.fault == api.OK && (dump || j.at < len(j.words)) {
		w := j.next()
		number, err := strconv.Atoi(strings.TrimPrefix(w, "#"))
		switch {
		case w == "$comment":
			j.skip()
		case dump && w == "$end":
			dump = false
		case !dump && timeForm.MatchString(w):
			j.need(err == nil && number < 1<<31 && (len(j.times) == 0 || number > j.times[len(j.times)-1]), api.ErrForm)
			j.need(len(j.times) < 4096, api.ErrLimit)
			j.settle()
			j.times = append(j.times, number)
		case len(j.times) > 0 && !dump && w == "$dumpvars":
			dump = true
		case len(j.times) > 0 && changeForm.MatchString(w):
			i := slices.Index(j.codes, w[1:])
			j.need(i >= 0, api.ErrNone)
			if i >= 0 {
				j.last[i] = strings.NewReplacer("X", "x", "z", "x", "Z", "x").Replace(w[:1])[0]
			}
		default:
			j.wrong(api.ErrForm)
		}
	}
	j.settle()
}

// judged answers what the chapter's words say that Read is to answer, as shown tells it.
func judged(s string) string {
	j := judge{words: regexp.MustCompile(`[^ \t\r\n]+`).FindAllString(s, -1)}
	j.head()
	j.body()
	if j.fault != api.OK {
		return failed(j.fault)
	}
	var b strings.Builder
	for _, n := range j.times {
		fmt.Fprint(&b, n, " ")
	}
	for i, name := range j.names {
		fmt.Fprint(&b, "/ ", name, " ", j.values[i])
	}
	return b.String()
}

// wave answers what the chapter's words say that Write is to answer.
func wave(t *testing.T, c api.Circuit, x api.Trace) string {
	t.Helper()
	run, e := sim.Run(c, x)
	if e != api.OK {
		t.Fatalf("no run: %d", e)
	}
	var names []string
	for _, k := range []struct {
		letter string
		many   int
	}{{"i", c.Inputs}, {"l", len(c.Latches)}, {"a", len(c.Gates)}, {"b", len(c.Bads)}} {
		for i := range k.many {
			names = append(names, fmt.Sprint(k.letter, i))
		}
	}
	var b strings.Builder
	b.WriteString("$scope module inquest $end\n")
	for _, n := range names {
		fmt.Fprintf(&b, "$var wire 1 %s %s $end\n", n, n)
	}
	b.WriteString("$upscope $end\n$enddefinitions $end\n")
	var was []uint8
	for f, vars := range run {
		fmt.Fprintf(&b, "#%d\n", f)
		now := slices.Clone(vars[1:])
		for _, lit := range c.Bads {
			now = append(now, [][3]uint8{{0, 1, 2}, {1, 0, 2}}[lit%2][vars[lit/2]])
		}
		for i, v := range now {
			if f == 0 || v != was[i] {
				fmt.Fprintf(&b, "%c%s\n", "01x"[v], names[i])
			}
		}
		was = now
	}
	fmt.Fprintf(&b, "#%d\n", len(run))
	return b.String()
}

// toggle has a latch that is 0, 1, 0, .., and bad literals of each kind.
func toggle() api.Circuit {
	return api.Circuit{Latches: []api.Latch{{Next: 3}}, Bads: []uint32{2, 3, 0, 1}}
}

// heads answers the declarations that Write writes for such signals.
func heads(names ...string) string {
	s := "$scope module inquest $end\n"
	for _, n := range names {
		s += "$var wire 1 " + n + " " + n + " $end\n"
	}
	return s + "$upscope $end\n$enddefinitions $end\n"
}

// lines answers a line for each of the words.
func lines(s string) string { return strings.ReplaceAll(s, " ", "\n") + "\n" }

// P10.1: what Write writes.
func TestWrite(t *testing.T) {
	told := sample.Told
	all := heads("i0", "i1", "l0", "l1", "l2", "a0", "a1", "a2", "a3", "b0", "b1", "b2")
	free := toggle()
	free.Latches[0].Reset = api.X
	for _, c := range []struct {
		what string
		c    api.Circuit
		t    api.Trace
		want string
	}{
		{"nothing but a bad literal", api.Circuit{Bads: []uint32{1}}, told(0, "", ""), heads("b0") + lines("#0 1b0 #1")},
		{"what stays is told once", api.Circuit{Bads: []uint32{0}}, told(0, "", "", "", ""), heads("b0") + lines("#0 0b0 #1 #2 #3")},
		{"what changes is told each time", toggle(), told(0, "0", "", "", ""), heads("l0", "b0", "b1", "b2", "b3") +
			lines("#0 0l0 0b0 1b1 0b2 1b3 #1 1l0 1b0 0b1 #2 0l0 0b0 1b1 #3")},
		{"X throughout", free, told(2, "x", "", ""), heads("l0", "b0", "b1", "b2", "b3") +
			lines("#0 xl0 xb0 xb1 0b2 1b3 #1 #2")},
		{"into X and out of it", api.Circuit{Inputs: 1, Bads: []uint32{3}}, told(0, "", "0", "x", "1", "x", "x", "0"), heads("i0", "b0") +
			lines("#0 0i0 1b0 #1 xi0 xb0 #2 1i0 0b0 #3 xi0 xb0 #4 #5 0i0 1b0 #6")},
		{"one of each kind", sample.Full(), told(0, "010", "00"), all + lines("#0 0i0 0i1 0l0 1l1 0l2 0a0 1a1 1a2 0a3 0b0 0b1 0b2 #1")},
		{"each of them changes", sample.Full(), told(1, "010", "11", "10", "00"), all +
			lines("#0 1i0 1i1 0l0 1l1 0l2 1a0 0a1 0a2 0a3 0b0 1b1 0b2 #1 0i1 1l0 0a0 1a1 1a2 1a3 1b0 0b1 #2 0i0 0l0 0l1 0a3 0b0 #3")},
		{"X of a few", sample.Full(), told(2, "01x", "x0", "01"), all +
			lines("#0 xi0 0i1 0l0 1l1 xl2 0a0 xa1 xa2 0a3 0b0 xb1 xb2 #1 0i0 1i1 xl1 #2")},
		{"outputs and constraints are not told", api.Circuit{Outputs: []uint32{1}, Constraints: []uint32{0}, Bads: []uint32{1}}, told(0, "", ""), heads("b0") + lines("#0 1b0 #1")},
		{"the same literal twice", api.Circuit{Inputs: 1, Bads: []uint32{2, 2}}, told(1, "", "1", "0"), heads("i0", "b0", "b1") +
			lines("#0 1i0 1b0 1b1 #1 0i0 0b0 0b1 #2")},
	} {
		if b, e := Write(c.c, c.t); string(b) != c.want || e != api.OK {
			t.Errorf("%s: Write = %q, %d, not %q", c.what, b, e, c.want)
		}
		if want := wave(t, c.c, c.t); want != c.want {
			t.Errorf("%s: the chapter's words say %q", c.what, want)
		}
	}
}

// P10.1: what does not fit is refused.
func TestWriteRefused(t *testing.T) {
	refused := func(c api.Circuit, x api.Trace) {
		t.Helper()
		if b, e := Write(c, x); len(b) > 0 || e != api.ErrArg {
			t.Errorf("Write(%v, %v) = %.40q, %d", c, x, b, e)
		}
	}
	for _, x := range sample.WrongTraces() {
		refused(sample.Full(), x)
	}
	for _, c := range sample.WrongCircuits() {
		refused(c, sample.Told(0, "01x", "00"))
		refused(c, sample.Told(0, "", ""))
	}
	refused(api.Circuit{}, api.Trace{})
	refused(api.Circuit{}, sample.Told(0, "", ""))
}

// waved answers what shown is to tell of the wave file of a trace: as many times as frames and one more, and the values of the run, of which the last ones come twice.
func waved(t *testing.T, c api.Circuit, x api.Trace) string {
	t.Helper()
	run, e := sim.Run(c, x)
	if e != api.OK {
		t.Fatalf("no run: %d", e)
	}
	run = append(run, run[len(run)-1])
	var times []uint32
	for f := range run {
		times = append(times, uint32(f))
	}
	var l []api.Wave
	add := func(letter string, i int, lit uint32) {
		w := api.Wave{Name: letter + strconv.Itoa(i)}
		for _, vars := range run {
			w.Values = append(w.Values, sim.Value(vars, lit))
		}
		l = append(l, w)
	}
	for i := range c.Inputs {
		add("i", i, uint32(2+2*i))
	}
	for i := range c.Latches {
		add("l", i, uint32(2+2*(c.Inputs+i)))
	}
	for i := range c.Gates {
		add("a", i, uint32(2+2*(c.Inputs+len(c.Latches)+i)))
	}
	for i, lit := range c.Bads {
		add("b", i, lit)
	}
	return shown(times, l, api.OK)
}

// P10.1, P10.3, P0.6: what is written for circuits and traces of any kind, and that it is read as the run.
func TestWriteAndReadOfMany(t *testing.T) {
	roll := sample.Dice(10)
	for range 3000 {
		c := sample.Circuit(roll)
		x := sample.Trace(roll, c, roll(len(c.Bads)), 1+roll(6), 2+roll(2))
		b, e := Write(c, x)
		if want := wave(t, c, x); string(b) != want || e != api.OK {
			t.Fatalf("Write(%v, %v) = %q, %d, not %q", c, x, b, e, want)
		}
		if got, want := read(string(b)), waved(t, c, x); got != want {
			t.Fatalf("Read(%q) = %s, not %s", b, got, want)
		}
	}
}

// P10.3: as many frames as there may be; and as many signals, each with the longest code.
func TestWriteAndReadOfMost(t *testing.T) {
	c := toggle()
	long := api.Trace{Init: []uint8{0}, Frames: make([][]uint8, api.MaxFrames)}
	b, e := Write(c, long)
	if string(b) != wave(t, c, long) || e != api.OK {
		t.Errorf("Write of many frames: %d", e)
	}
	checkRead(t, string(b), waved(t, c, long))
	wide := api.Circuit{Inputs: 1, Bads: slices.Repeat([]uint32{2, 2*api.MaxVars + 1}, api.MaxList/2)}
	for v := uint32(2); v <= api.MaxVars; v++ {
		wide.Gates = append(wide.Gates, api.Gate{A: 2*v - 1, B: 2*v - 1})
	}
	for frames := 1; frames <= api.MaxFrames; frames *= 16 {
		x := sample.Trace(sample.Dice(1), wide, 1000, frames, 3)
		b, e := Write(wide, x)
		if string(b) != wave(t, wide, x) || e != api.OK {
			t.Errorf("Write of %d frames: %d", frames, e)
		}
		want := failed(api.ErrLimit)
		if len(b) <= 8*api.MaxBytes {
			want = waved(t, wide, x)
		}
		if (frames == api.MaxFrames) != (len(b) > 8*api.MaxBytes) {
			t.Errorf("%d frames are %d bytes", frames, len(b))
		}
		checkRead(t, string(b), want)
	}
}

// small has signals of the codes a and b; what follows comes after the declarations.
const small = "$var wire 1 a A $end $var wire 1 b B $end $enddefinitions $end "

// P10.2: what Read reads.
func TestRead(t *testing.T) {
	for _, c := range []struct{ what, file, want string }{
		{"no signal, no time", "$enddefinitions $end", ""},
		{"no time", small, "/ A / B "},
		{"no signal", "$enddefinitions $end #0 #7", "0 7 "},
		{"no change", small + "#0 #1", "0 1 / A xx/ B xx"},
		{"a change holds", small + "#0 0a #1 #2 1a #5 #6", "0 1 2 5 6 / A 00111/ B xxxxx"},
		{"a change at the last time", small + "#0 0a #1 1a", "0 1 / A 01/ B xx"},
		{"x ahead of the first change", small + "#0 #1 0b #2 1b", "0 1 2 / A xxx/ B x01"},
		{"each value", small + "#0 0a 0b #1 1a 1b #2 xa Xb #3 0a 0b #4 za Zb", "0 1 2 3 4 / A 01x0x/ B 01x0x"},
		{"the last change at a time", small + "#0 0a 1a #1 xa 0a 0a #2 1a 0a 1a xa", "0 1 2 / A 10x/ B xxx"},
		{"the same value again", small + "#0 1a #1 1a 0b #2 1a 0b", "0 1 2 / A 111/ B x00"},
		{"codes against names", "$var wire 1 b a $end $var wire 1 a b $end $enddefinitions $end #0 0a 1b", "0 / a 1/ b 0"},
		{"the same name twice", "$var wire 1 a n $end $var wire 1 b n $end $enddefinitions $end #0 0a 1b", "0 / n 0/ n 1"},
		{"the longest code and name", "$var wire 1 abcdefgh " + strings.Repeat("n", 32) + " $end $var wire 1 abcdefg m $end $enddefinitions $end #0 1abcdefgh 0abcdefg",
			"0 / " + strings.Repeat("n", 32) + " 1/ m 0"},
		{"codes of the first and the last byte", "$var wire 1 ! ~ $end $var wire 1 ~ ! $end $enddefinitions $end #0 0! 1~", "0 / ~ 0/ ! 1"},
		{"codes and names like other words", "$var wire 1 $end $end $end $var wire 1 #0 $var $end $var wire 1 0 wire $end $enddefinitions $end #0 1$end 0#0 100",
			failed(api.ErrNone)},
		{"codes like other words", "$var wire 1 $end $end $end $var wire 1 #0 $var $end $var wire 1 0 1 $end $enddefinitions $end #0 1$end 0#0 10",
			"0 / $end 1/ $var 0/ 1 1"},
		{"times from a later one on", small + "#5 #2147483647", "5 2147483647 / A xx/ B xx"},
		{"the greatest time alone", "$enddefinitions $end #2147483647", "2147483647 "},
		{"dumps", small + "#0 $dumpvars 1a xb $end #1 0b $dumpvars $end 0a $dumpvars 1b $end 1a #2", "0 1 2 / A 111/ B x11"},
		{"a dump at the end", small + "#0 $dumpvars 1a $end", "0 / A 1/ B x"},
		{"each kind of gap", "\r\n\t $var\twire\r\n1  a\n\nA\r$end\t\t$enddefinitions\n\r\n$end #0\t1a\r\n\t #1\n0a\r", "0 1 / A 10"},
		{"no gap at the end", "$var wire 1 a A $end $enddefinitions $end #0 1a", "0 / A 1"},
		{"what is ignored", "$comment $end $date today #0 0a $var $end $version \x00\xff $enddefinitions $end $timescale 1 ns $end $scope module m $end" +
			" $var wire 1 a A $end $upscope $end $comment $comment $end $enddefinitions $end #0 1a", "0 / A 1"},
		{"comments after the declarations", small + "$comment #9 $end #0 $comment $dumpvars 0a $end 1a $dumpvars $comment #1 junk $end 0b $end $comment $end", "0 / A 1/ B 0"},
		{"declarations behind the scope", "$scope $end $upscope $end $upscope $end $var wire 1 a A $end $enddefinitions $end", "/ A "},
	} {
		if got := read(c.file); got != c.want {
			t.Errorf("%s: Read = %s, not %s", c.what, got, c.want)
		}
		if want := judged(c.file); want != c.want {
			t.Errorf("%s: the chapter's words say %s", c.what, want)
		}
	}
}

// P10.2: the errors of Read.
func TestReadErrors(t *testing.T) {
	for e, l := range map[api.Errno][]string{
		api.ErrShort: {
			// Within a declaration, or ahead of the end of the declarations.
			"", " \n", "$var", "$var wire", "$var wire 1", "$var wire 1 a", "$var wire 1 a A", "$var wire 1 a A $end", "$comment", "$date #0 0a", "$scope $var",
			"$enddefinitions", "$comment $enddefinitions $end", "$var wire 1 a $end", "$var wire 1 $end A", "$upscope $end",
			// Within $dumpvars, or within a comment.
			small + "#0 $dumpvars", small + "#0 $dumpvars 1a", small + "#0 $dumpvars $comment", small + "#0 $dumpvars $comment $end", small + "$comment", small + "#0 $comment x", small + "#0 $comment $dumpvars",
			// Gaps behind the last word are no words.
			"$enddefinitions \n", small + "#0 $dumpvars \r\n",
		},
		api.ErrForm: {
			// Among the declarations.
			"x", "$end", "#0", "0a", "$dumpvars", "$dumpvars $end $enddefinitions $end", "$enddefinitions x", "$enddefinitions x $end", "$enddefinitions $enddefinitions $end", "$", "$$end",
			"$VAR wire 1 a A $end", "$variable", "$dumpall $end", "$dumpoff $end", "var wire 1 a A $end", "$var wire 1 a A $end $end", "$comment $end $end", "$comment$end", "wire", "\x00", "\xff", "\v",
			// A $var of another form.
			"$var reg", "$var $end", "$var WIRE", "$var wire 2", "$var wire 01", "$var wire $end", "$var wire a", "$var 1 wire a A $end",
			"$var wire 1 abcdefghi", "$var wire 1 \xe9", "$var wire 1 a\x7f", "$var wire 1 \x1f", "$var wire 1 a\x00", "$var wire 1 \v",
			"$var wire 1 a " + strings.Repeat("n", 33), "$var wire 1 a n\xe9", "$var wire 1 a \x7f", "$var wire 1 a \x1fn",
			"$var wire 1 a A [0]", "$var wire 1 a A B $end", "$var wire 1 a $end $enddefinitions $end", "$var wire 1 a A $enddefinitions", "$var wire 1 a A$end $enddefinitions",
			// After the declarations, ahead of the first time.
			small + "0a", small + "1c", small + "0a #0", small + "$dumpvars", small + "$dumpvars #0", small + "$dumpvars $end", small + "$end", small + "x", small + "$var wire 1 c C $end", small + "$enddefinitions $end",
			small + "$comment $end 0a", small + "$date $end", small + "$upscope $end",
			// Times.
			small + "#", small + "# 0", small + "#00", small + "#01", small + "#-1", small + "#+1", small + "#1x", small + "#x", small + "##1", small + "#1.0", small + "#1_0", small + "#0x1", small + "#1e3",
			small + "#2147483648", small + "#4294967296", small + "#4294967297", small + "#18446744073709551616", small + "#" + strings.Repeat("9", 1000), small + "#\u0661", small + "#0\x00",
			small + "#0 #0", small + "#1 #0", small + "#0 #1 #1", small + "#10 #9", small + "#2147483647 #2147483647", small + "#2147483647 #2147483648", small + "#3 0a #2",
			// Changes, and other words behind a time.
			small + "#0 0", small + "#0 0 a", small + "#0 x", small + "#0 a", small + "#0 2a", small + "#0 0abcdefghi", small + "#0 0a\xe9", small + "#0 0a\x7f", small + "#0 1a\v1b", small + "#0 ua", small + "#0 -a", small + "#0 b0 a", small + "#0 r1 a",
			small + "#0 $end", small + "#0 $dumpvars $end $end", small + "#0 $date $end", small + "#0 $var wire 1 c C $end", small + "#0 $enddefinitions", small + "#0 $dumpall", small + "#0 $dumpvars$end", small + "#0 $COMMENT $end",
			// Within $dumpvars.
			small + "#0 $dumpvars #1", small + "#0 $dumpvars $dumpvars", small + "#0 $dumpvars 0", small + "#0 $dumpvars x", small + "#0 $dumpvars $var", small + "#0 $dumpvars $comment $end #1", small + "#0 $dumpvars 0a #1 $end",
		},
		api.ErrTwice: {
			"$var wire 1 a A $end $var wire 1 a", "$var wire 1 a A $end $var wire 1 a B $end $enddefinitions $end", "$var wire 1 a A $end $comment $end $var wire 1 b A $end $var wire 1 a",
			"$var wire 1 abcdefgh A $end $var wire 1 abcdefgh", "$var wire 1 ! A $end $scope a $end $var wire 1 ! A $end",
		},
		api.ErrNone: {
			small + "#0 0c", small + "#0 1A", small + "#0 xaa", small + "#0 z0a", small + "#0 Zab", small + "#0 X$end", small + "#0 0a #1 0abcdefgh", small + "#0 $dumpvars 0c", small + "#0 0a0 a", "$enddefinitions $end #0 0a",
			small + "#0 11",
		},
		api.ErrLimit: {strings.Repeat(" ", 8*api.MaxBytes+1), strings.Repeat("x ", 4*api.MaxBytes) + "x", small + strings.Repeat("\n", 8*api.MaxBytes)},
	} {
		for _, s := range l {
			checkRead(t, s, failed(e))
			if e == api.ErrLimit {
				continue
			}
			if want := judged(s); want != failed(e) {
				t.Errorf("%s: the chapter's words say %s", brief(s), want)
			}
		}
	}
}

// P10.2: of several faults the first one from the left is told.
func TestReadFirstError(t *testing.T) {
	for s, e := range map[string]api.Errno{
		"$var wire 1 a A $end $var wire 1 a \xff":         api.ErrTwice,
		"$var wire 1 a A $end $var wire 2 a":              api.ErrForm,
		"$var wire 1 a A $end $var wire 1 a B $end x":     api.ErrTwice,
		"$var wire 1 a A $end x $var wire 1 a B $end":     api.ErrForm,
		"$var wire 1 a \xff $end $var wire 1 a":           api.ErrForm,
		"$var wire 1 a A $end $enddefinitions $end 0b #0": api.ErrForm,
		small + "#0 0c x":            api.ErrNone,
		small + "#0 x 0c":            api.ErrForm,
		small + "#0 0c #0":           api.ErrNone,
		small + "#0 #0 0c":           api.ErrForm,
		small + "#0 $dumpvars 0c":    api.ErrNone,
		small + "#0 $dumpvars #1 0c": api.ErrForm,
		small + "#0 0c $dumpvars":    api.ErrNone,
		"$var wire 1 a A $end $var wire 1 a A $end $enddefinitions $end": api.ErrTwice,
		"$var wire 1 a A $end $enddefinitions $end $var wire 1 a":        api.ErrForm,
	} {
		checkRead(t, s, failed(e))
	}
}

// P10.2: each byte, as a gap, in a code, in a name, and as a value.
func TestReadOfAllBytes(t *testing.T) {
	for x := range 256 {
		for _, s := range []string{
			"$var wire 1 a A $end%s$enddefinitions $end",
			"$var wire 1 a%s A $end $enddefinitions $end",
			"$var wire 1 %s A $end $enddefinitions $end",
			"$var wire 1 a A%s $end $enddefinitions $end",
			small + "#0 %sa",
			small + "#0 %sb #1 1b",
			small + "#0 0%s",
			small + "#%s",
			small + "#1%s",
			small + "%s#1",
			"%s" + small,
			small + "%s",
			"$%s$end " + small,
			"$comment %s $end " + small,
		} {
			s = strings.ReplaceAll(s, "%s", string([]byte{byte(x)}))
			checkRead(t, s, judged(s))
		}
	}
}

// P10.2: as many bytes as there may be; the file counts, whatever is in it.
func TestReadOfMostBytes(t *testing.T) {
	long := small + "#0 1a #1 "
	checkRead(t, long+strings.Repeat(" ", 8*api.MaxBytes-len(long)), "0 1 / A 11/ B xx")
	comment := small + "#0 1a $comment "
	checkRead(t, comment+strings.Repeat("x", 8*api.MaxBytes-len(comment)-5)+" $end", "0 / A 1/ B x")
	checkRead(t, comment+strings.Repeat("x", 8*api.MaxBytes-len(comment)-4)+" $end", failed(api.ErrLimit))
	many := small + "#0 "
	checkRead(t, many+strings.Repeat("1a xa ", (8*api.MaxBytes-len(many)-3)/6)+"0b", "0 / A x/ B 0")
	checkRead(t, strings.Repeat("x", 8*api.MaxBytes), failed(api.ErrForm))
	checkRead(t, "$date"+strings.Repeat(" x", 4*api.MaxBytes-5), failed(api.ErrShort))
}

// declared answers as many declarations.
func declared(many int) string {
	var b strings.Builder
	for i := range many {
		fmt.Fprintf(&b, "$var wire 1 %x n%d $end\n", i, i)
	}
	return b.String()
}

// P10.2: as many signals as there may be, and one more.
func TestReadOfMostSignals(t *testing.T) {
	most := declared(2 * api.MaxVars)
	times, l, e := Read([]byte(most + "$enddefinitions $end #0 17fff 00 #1 07fff 11 12"))
	if len(times) != 2 || len(l) != 2*api.MaxVars || e != api.OK {
		t.Fatalf("Read = %d times, %d waves, %d", len(times), len(l), e)
	}
	for i, w := range l {
		want := "xx"
		switch i {
		case 0:
			want = "00"
		case 1, 2:
			want = "x1"
		case 0x7fff:
			want = "10"
		}
		if w.Name != fmt.Sprint("n", i) || !bytes.Equal(w.Values, sample.Digits(want)) {
			t.Errorf("wave %d = %v", i, w)
		}
	}
	checkRead(t, most, failed(api.ErrShort))
	for _, s := range []string{"$var", "$var wire 1 8000 n $end $enddefinitions $end", "$var x", "$var wire 1 0"} {
		checkRead(t, most+s, failed(api.ErrLimit))
	}
	checkRead(t, most+"x $var", failed(api.ErrForm))
	checkRead(t, most+"$comment $var $end $enddefinitions $end $var", failed(api.ErrForm))
	checkRead(t, most+"$enddefinitions $end 0z $var", failed(api.ErrForm))
	checkRead(t, declared(2*api.MaxVars-1)+"$var wire 1 0", failed(api.ErrTwice))
	checkRead(t, declared(2*api.MaxVars-1)+"$var wire 1 7fff n $end", failed(api.ErrShort))
}

// timesOf answers as many times, from 0 on.
func timesOf(many int) string {
	var b strings.Builder
	for i := range many {
		fmt.Fprintf(&b, "#%d ", 3*i)
	}
	return b.String()
}

// P10.2: as many times as there may be, and one more.
func TestReadOfMostTimes(t *testing.T) {
	most := small + "#0 0a " + timesOf(4096)[3:]
	times, l, e := Read([]byte(most + "1a 1b $comment #99999 $end"))
	if len(times) != 4096 || times[1] != 3 || times[4095] != 3*4095 || len(l) != 2 || e != api.OK {
		t.Fatalf("Read = %d times, %d waves, %d", len(times), len(l), e)
	}
	for i, start := range []uint8{0, api.X} {
		want := slices.Repeat([]uint8{start}, 4096)
		want[4095] = 1
		if !bytes.Equal(l[i].Values, want) {
			t.Errorf("wave %d ends in %v", i, l[i].Values[4000:])
		}
	}
	for s, e := range map[string]api.Errno{
		"#12288":                    api.ErrLimit,
		"#2147483647 x":             api.ErrLimit,
		"#12288 #0":                 api.ErrLimit,
		"$comment $end #9999999 0c": api.ErrLimit,
		"0c #12288":                 api.ErrNone,
		"x #12288":                  api.ErrForm,
		"$dumpvars":                 api.ErrShort,
		"#x":                        api.ErrForm,
	} {
		checkRead(t, most+s, failed(e))
	}
	checkRead(t, small+timesOf(4095)+"#12284 #x", failed(api.ErrForm))
}

// mixed answers the words of a wave file, most of them right.
func mixed(roll func(int) int) []string {
	var words []string
	add := func(s string) { words = append(words, strings.Fields(s)...) }
	pick := func(l ...string) string { return l[roll(len(l))] }
	ignored := func() {
		add(pick("$comment", "$date", "$scope", "$timescale", "$upscope", "$version") + " " + pick("", "x", "#3 0a", "$var") + " $end")
	}
	codes := []string{"a", "b", "!", "aa", "#1", "abcdefgh"}[:roll(7)]
	for _, c := range codes {
		for roll(4) == 0 {
			ignored()
		}
		add("$var wire 1 " + c + " " + pick("n", "m", "$var", c) + " $end")
	}
	add("$enddefinitions $end")
	change := func() {
		if len(codes) > 0 {
			add(pick("0", "1", "x", "X", "z", "Z") + codes[roll(len(codes))])
		}
	}
	for time := range roll(6) {
		add(fmt.Sprint("#", 10*time+roll(10)))
		for range roll(6) {
			switch roll(8) {
			case 0:
				add("$comment " + pick("", "$dumpvars", "#0") + " $end")
			case 1:
				add("$dumpvars")
				for range roll(4) {
					change()
				}
				add("$end")
			default:
				change()
			}
		}
	}
	return words
}

// spoilt answers the words after a few changes.
func spoilt(roll func(int) int, words []string) []string {
	others := strings.Fields("$var wire 1 a b c A $end $enddefinitions $comment $date $dumpvars #0 #1 #17 #99 #01 # 0a 1b xc z! 2a 0 0abcdefghi $foo abcdefghi")
	for range roll(3) {
		at := roll(len(words))
		switch roll(5) {
		case 0:
			words = slices.Delete(words, at, at+1)
		case 1:
			words = slices.Insert(words, at, others[roll(len(others))])
		case 2:
			words[at] = others[roll(len(others))]
		case 3:
			words = slices.Insert(words, at, words[roll(len(words))])
		case 4:
			words = words[:at+1]
		}
		if len(words) == 0 {
			break
		}
	}
	return words
}

// P10.2: files of any kind, right and wrong ones.
func TestReadOfMany(t *testing.T) {
	roll := sample.Dice(7)
	many := map[string]int{}
	for range 30000 {
		var b strings.Builder
		for _, w := range spoilt(roll, mixed(roll)) {
			b.WriteString(w + []string{" ", "\n", "\t", "\r\n", "  "}[roll(5)])
		}
		want := judged(b.String())
		if got := read(b.String()); got != want {
			t.Fatalf("Read(%q) = %s, not %s", b.String(), got, want)
		}
		if !strings.HasPrefix(want, "error") {
			want = "none"
		}
		many[want]++
	}
	for _, what := range []string{"none", failed(api.ErrShort), failed(api.ErrForm), failed(api.ErrNone), failed(api.ErrTwice)} {
		if many[what] < 25 {
			t.Errorf("%s: %d files", what, many[what])
		}
	}
}

// P10.2: a file that ends too soon, at each of its bytes.
func TestReadOfPieces(t *testing.T) {
	s := "$comment x $end\n" + small + "#0\n$dumpvars 0a 1b $end\n#1\n$comment y $end 1a #12\n"
	for i := range s {
		checkRead(t, s[:i], judged(s[:i]))
		checkRead(t, s[:i]+"\x01"+s[i:], judged(s[:i]+"\x01"+s[i:]))
		checkRead(t, s[i:], judged(s[i:]))
	}
}

// spoil overwrites a list and its spare capacity.
func spoil[T any](l []T, x T) {
	for i := range l[:cap(l)] {
		l[:cap(l)][i] = x
	}
}

// P10.1: Write keeps its arguments as they are, and answers new memory.
func TestWriteSharesNothing(t *testing.T) {
	c, x := sample.Full(), sample.Told(2, "01x", "x0", "01")
	b, _ := Write(c, x)
	again, _ := Write(c, x)
	spoil(b, '?')
	if string(again) != wave(t, c, x) || !norm.Same(c, sample.Full()) || !norm.SameTrace(x, sample.Told(2, "01x", "x0", "01")) {
		t.Errorf("a change to the result: %q, %v, %v", again, c, x)
	}
}

// P10.2: Read keeps its argument as it is, and answers new memory, list by list.
func TestReadSharesNothing(t *testing.T) {
	const file, want = small + "#0 0a #1 1a 0b #2", "0 1 2 / A 011/ B x00"
	array := []byte(file + " spare")
	b := array[:len(file)]
	times, l, _ := Read(b)
	again := func() string { return shown(Read(b)) }
	if again() != want || string(array) != file+" spare" {
		t.Errorf("Read = %s; %q", again(), array)
	}
	spoil(array, '?')
	if got := shown(times, l, api.OK); got != want {
		t.Errorf("after a change to the argument: %s", got)
	}
	spoil(times, 9)
	spoil(l[0].Values, 1)
	if l[0].Name != "A" || l[1].Name != "B" || !bytes.Equal(l[1].Values, sample.Digits("x00")) {
		t.Errorf("after a change to a list ahead: %v", l)
	}
	copy(array, file)
	if got := again(); got != want {
		t.Errorf("after changes to results: %s", got)
	}
}

// The chapter's example; DOC.md, example 2 of the whole, as far as it is of this layer.
func TestExamples(t *testing.T) {
	c, x := api.Circuit{Inputs: 1, Bads: []uint32{2}}, sample.Told(0, "", "0", "1")
	b, e := Write(c, x)
	if want := heads("i0", "b0") + "#0\n0i0\n0b0\n#1\n1i0\n1b0\n#2\n"; string(b) != want || e != api.OK {
		t.Errorf("Write = %q, %d", b, e)
	}
	checkRead(t, string(b), "0 1 2 / i0 011/ b0 011")
	wire := api.Circuit{Inputs: 1, Latches: []api.Latch{{Next: 2}}, Bads: []uint32{4}}
	b, e = Write(wire, sample.Told(0, "0", "1", "x"))
	if e != api.OK {
		t.Errorf("Write: %d", e)
	}
	checkRead(t, string(b), "0 1 2 / i0 1xx/ l0 011/ b0 011")
}
