package sim

import (
	"bytes"
	"math"
	"slices"
	"testing"

	"inquest/api"
	"inquest/norm"
	"inquest/sample"
)

var (
	dice          = sample.Dice
	digits        = sample.Digits
	frames        = sample.Frames
	full          = sample.Full
	someCircuit   = sample.Circuit
	someTrace     = sample.Trace
	someValues    = sample.Values
	trace         = sample.Told
	wrongCircuits = sample.WrongCircuits
	wrongTraces   = sample.WrongTraces
)

// negations and conjunctions are written out from DOC.md's section Terms.
var (
	negations    = [3]uint8{1, 0, 2}
	conjunctions = [3][3]uint8{{0, 0, 0}, {0, 1, 2}, {0, 2, 2}}
)

// judged answers the values of a frame, and the latches' next ones, straight from DOC.md's words.
func judged(c api.Circuit, state, inputs []uint8) (vars, next []uint8) {
	vars = slices.Concat([]uint8{0}, inputs, state)
	for _, g := range c.Gates {
		vars = append(vars, conjunctions[valued(vars, g.A)][valued(vars, g.B)])
	}
	for _, l := range c.Latches {
		next = append(next, valued(vars, l.Next))
	}
	return vars, next
}

func valued(vars []uint8, lit uint32) uint8 {
	if lit%2 == 1 {
		return negations[vars[lit/2]]
	}
	return vars[lit/2]
}

func judgedRun(c api.Circuit, t api.Trace) [][]uint8 {
	var l [][]uint8
	state := t.Init
	for _, inputs := range t.Frames {
		vars, next := judged(c, state, inputs)
		l, state = append(l, vars), next
	}
	return l
}

// judgedSurely answers what the chapter's words say of a trace.
func judgedSurely(c api.Circuit, t api.Trace) uint8 {
	run := judgedRun(c, t)
	var needed []uint8
	for _, vars := range run {
		for _, lit := range c.Constraints {
			needed = append(needed, valued(vars, lit))
		}
	}
	needed = append(needed, valued(run[len(run)-1], c.Bads[t.Bad]))
	switch {
	case slices.Contains(needed, 0):
		return 0
	case slices.Contains(needed, 2):
		return 2
	}
	return 1
}

func judgedFails(c api.Circuit, t api.Trace) bool { return judgedSurely(c, zeroed(t)) == 1 }

// zeroed answers a trace with each X read as 0.
func zeroed(t api.Trace) api.Trace {
	read := func(l []uint8) []uint8 { return bytes.ReplaceAll(l, []uint8{2}, []uint8{0}) }
	x := api.Trace{Bad: t.Bad, Init: read(t.Init)}
	for _, f := range t.Frames {
		x.Frames = append(x.Frames, read(f))
	}
	return x
}

func sameRun(a, b [][]uint8) bool { return slices.EqualFunc(a, b, bytes.Equal) }

// P7.1: Value of each byte, and of its negation.
func TestValue(t *testing.T) {
	for v := range 256 {
		is, not := uint8(2), uint8(2)
		if v < 3 {
			is, not = uint8(v), negations[v]
		}
		for i := range 4 {
			vars := []uint8{0, 1, 0, 1}
			vars[i] = uint8(v)
			if got := Value(vars, uint32(2*i)); got != is {
				t.Errorf("Value(%v, %d) = %d", vars, 2*i, got)
			}
			if got := Value(vars, uint32(2*i+1)); got != not {
				t.Errorf("Value(%v, %d) = %d", vars, 2*i+1, got)
			}
		}
	}
}

// P7.1: Value without the variable; what lies in spare capacity does not count.
func TestValueOfNothing(t *testing.T) {
	for _, vars := range [][]uint8{nil, {}, {0}, {0, 1, 0}, make([]uint8, 100), slices.Repeat([]uint8{1}, 9)[:3]} {
		n := uint32(2 * len(vars))
		for _, lit := range []uint32{n, n + 1, n + 2, 1000, 1001, 1 << 31, 1<<31 + 1, math.MaxUint32 - 1, math.MaxUint32} {
			if got := Value(vars, lit); got != api.X {
				t.Errorf("Value(%v, %d) = %d", vars, lit, got)
			}
		}
	}
}

// P7.1: Frame.
func TestFrame(t *testing.T) {
	for _, c := range []struct{ what, state, inputs, vars, next string }{
		{"zeros", "000", "00", "0000000110", "001"},
		{"ones", "111", "11", "0111111001", "110"},
		{"inputs alone", "001", "11", "0110011000", "110"},
		{"latches as they are not at first", "100", "01", "0011000110", "001"},
		{"X throughout", "xxx", "xx", "0xxxxxxxxx", "xxx"},
		{"X beside 0", "0x1", "x0", "0x00x10000", "01x"},
		{"X beside 1", "01x", "1x", "01x01xxxx0", "xx0"},
		{"X that does not count", "x00", "x0", "0x0x000110", "00x"},
	} {
		vars, next, e := Frame(full(), digits(c.state), digits(c.inputs))
		if !bytes.Equal(vars, digits(c.vars)) || !bytes.Equal(next, digits(c.next)) || e != api.OK {
			t.Errorf("%s: Frame = %v, %v, %d", c.what, vars, next, e)
		}
	}
}

// P7.1: Frame of constants, and of gates that X leaves X though they never are 1.
func TestFrameOfFew(t *testing.T) {
	for _, c := range []struct {
		what                      string
		c                         api.Circuit
		state, inputs, vars, next string
	}{
		{"nothing", api.Circuit{}, "", "", "0", ""},
		{"an input", api.Circuit{Inputs: 1}, "", "x", "0x", ""},
		{"latches of constants", api.Circuit{Latches: []api.Latch{{Next: 0, Reset: 1}, {Next: 1}}}, "xx", "", "0xx", "01"},
		{"latches of each other", api.Circuit{Latches: []api.Latch{{Next: 4}, {Next: 3}}}, "01", "", "001", "11"},
		{"gates of constants", api.Circuit{Gates: []api.Gate{{A: 0, B: 0}, {A: 1, B: 0}, {A: 1, B: 1}}}, "", "", "0001", ""},
		{"an input twice", api.Circuit{Inputs: 1, Gates: []api.Gate{{A: 2, B: 2}, {A: 3, B: 3}}}, "", "x", "0xxx", ""},
		{"an input and its negation", api.Circuit{Inputs: 1, Gates: []api.Gate{{A: 3, B: 2}, {A: 5, B: 1}}}, "", "x", "0xxx", ""},
		{"the same, known", api.Circuit{Inputs: 1, Gates: []api.Gate{{A: 3, B: 2}, {A: 5, B: 1}}}, "", "1", "0101", ""},
	} {
		vars, next, e := Frame(c.c, digits(c.state), digits(c.inputs))
		if !bytes.Equal(vars, digits(c.vars)) || !bytes.Equal(next, digits(c.next)) || e != api.OK {
			t.Errorf("%s: Frame = %v, %v, %d", c.what, vars, next, e)
		}
	}
}

// P7.1: what Frame refuses.
func TestFrameErrors(t *testing.T) {
	refused := func(c api.Circuit, state, inputs []uint8) {
		t.Helper()
		if vars, next, e := Frame(c, state, inputs); len(vars) > 0 || len(next) > 0 || e != api.ErrArg {
			t.Errorf("Frame(%v, %v) = %v, %v, %d", state, inputs, vars, next, e)
		}
	}
	for _, c := range wrongCircuits() {
		refused(c, digits("01x"), digits("01"))
		refused(c, nil, nil)
	}
	for n := range 6 {
		l := make([]uint8, n)
		if n != 3 {
			refused(full(), l, digits("01"))
		}
		if n != 2 {
			refused(full(), digits("01x"), l)
		}
	}
	for v := 3; v < 256; v++ {
		for i := range 3 {
			state := digits("01x")
			state[i] = uint8(v)
			refused(full(), state, digits("01"))
		}
		for i := range 2 {
			inputs := digits("01")
			inputs[i] = uint8(v)
			refused(full(), digits("01x"), inputs)
		}
	}
	refused(api.Circuit{Inputs: 1}, nil, nil)
	refused(api.Circuit{Latches: []api.Latch{{}}}, nil, nil)
}

// P7.1: Run.
func TestRun(t *testing.T) {
	for _, c := range []struct {
		what string
		t    api.Trace
		want [][]uint8
	}{
		{"one frame", trace(0, "010", "00"), frames("0000100110")},
		{"each frame follows from the one ahead", trace(1, "010", "11", "10", "00"), frames("0110101000", "0101100111", "0000000110")},
		{"X goes on", trace(2, "01x", "x0", "01"), frames("0x001x0xx0", "0010xx0xx0")},
	} {
		if l, e := Run(full(), c.t); !sameRun(l, c.want) || e != api.OK {
			t.Errorf("%s: Run = %v, %d", c.what, l, e)
		}
	}
	if l, e := Run(api.Circuit{Bads: []uint32{0}}, trace(0, "", "", "")); !sameRun(l, frames("0", "0")) || e != api.OK {
		t.Errorf("no variable: Run = %v, %d", l, e)
	}
}

// P7.1, P7.2: what does not fit is refused, by each of the functions.
func TestMisfits(t *testing.T) {
	refused := func(c api.Circuit, x api.Trace) {
		t.Helper()
		if l, e := Run(c, x); len(l) > 0 || e != api.ErrArg {
			t.Errorf("Run(%v) = %v, %d", x, l, e)
		}
		if is, e := Fails(c, x); is || e != api.ErrArg {
			t.Errorf("Fails(%v) = %t, %d", x, is, e)
		}
		if v, e := Surely(c, x); v != 0 || e != api.ErrArg {
			t.Errorf("Surely(%v) = %d, %d", x, v, e)
		}
		manyRefused(t, c, x)
		manyRefused(t, c, x, x)
	}
	for _, x := range wrongTraces() {
		refused(full(), x)
	}
	for _, c := range wrongCircuits() {
		refused(c, trace(0, "01x", "00"))
		refused(c, trace(0, "", ""))
	}
	refused(api.Circuit{}, trace(0, "", ""))
}

func manyRefused(t *testing.T, c api.Circuit, l ...api.Trace) {
	t.Helper()
	if fails, surely, e := Many(c, l); fails != 0 || surely != 0 || e != api.ErrArg {
		t.Errorf("Many(%v) = %x, %x, %d", l, fails, surely, e)
	}
}

// P7.1: Read, of traces of any kind.
func TestRead(t *testing.T) {
	every := make([]uint8, 256)
	for i := range every {
		every[i] = uint8(i)
	}
	for _, x := range []api.Trace{
		{},
		trace(3, "01x0x", "x1", "", "xxx", "0"),
		{Bad: -7, Init: every, Frames: [][]uint8{every, nil, {}, {2, 3}, every}},
		{Bad: math.MaxInt, Frames: slices.Repeat(frames("x"), 1000)},
	} {
		if got := Read(x); !norm.SameTrace(got, zeroed(x)) {
			t.Errorf("Read(%v) = %v", x, got)
		}
	}
	if x := Read(trace(1, "01x", "x0", "1x")); !norm.SameTrace(x, trace(1, "010", "00", "10")) {
		t.Errorf("Read = %v", x)
	}
}

// line is a circuit of three inputs, each of them a bad literal, and of constraints.
func line(constraints ...uint32) api.Circuit {
	return api.Circuit{Inputs: 3, Bads: []uint32{2, 5, 0, 1}, Constraints: constraints}
}

// P7.2: Fails and Surely.
func TestFailsAndSurely(t *testing.T) {
	for _, c := range []struct {
		what   string
		c      api.Circuit
		t      api.Trace
		fails  bool
		surely uint8
	}{
		{"bad", line(), trace(0, "", "100"), true, 1},
		{"not bad", line(), trace(0, "", "011"), false, 0},
		{"bad X", line(), trace(0, "", "x11"), false, 2},
		{"negated bad", line(), trace(1, "", "000"), true, 1},
		{"negated bad X, 1 once it is read", line(), trace(1, "", "0x0"), true, 2},
		{"the other bad literal", line(), trace(1, "", "110"), false, 0},
		{"bad 0", line(), trace(2, "", "111"), false, 0},
		{"bad 1", line(), trace(3, "", "xxx"), true, 1},
		{"bad in the last frame alone", line(), trace(0, "", "000", "0x0", "100"), true, 1},
		{"bad ahead of the last frame alone", line(), trace(0, "", "100", "100", "000"), false, 0},
		{"X ahead of the last frame", line(), trace(0, "", "xxx", "100"), true, 1},
		{"X in the last frame", line(), trace(0, "", "111", "x11"), false, 2},
		{"constraints hold", line(4, 7), trace(0, "", "010", "010", "110"), true, 1},
		{"constraint 0 in the first frame", line(4, 7), trace(0, "", "000", "010", "110"), false, 0},
		{"constraint 0 in the frame between", line(4, 7), trace(0, "", "010", "011", "110"), false, 0},
		{"constraint 0 in the last frame", line(4, 7), trace(0, "", "010", "010", "100"), false, 0},
		{"constraint X in the first frame", line(4, 7), trace(0, "", "0x0", "010", "110"), false, 2},
		{"constraint X, 1 once it is read", line(4, 7), trace(0, "", "01x", "01x", "11x"), true, 2},
		{"constraint X in the last frame", line(4, 7), trace(0, "", "010", "010", "1x0"), false, 2},
		{"constraint X and bad 0", line(4, 7), trace(0, "", "0xx", "0xx"), false, 0},
		{"constraint 0 and bad X", line(4, 7), trace(0, "", "001", "x10"), false, 0},
		{"constraint 0 in one frame, X in others", line(4, 7), trace(0, "", "xxx", "xx1", "xxx"), false, 0},
		{"constraint X, then 0", line(4, 7), trace(0, "", "xxx", "100"), false, 0},
		{"constraint X and bad X", line(4), trace(0, "", "xx0"), false, 2},
		{"constraint 1", line(1), trace(0, "", "100"), true, 1},
		{"constraint 0", line(1, 0), trace(0, "", "1xx"), false, 0},
		{"two constraints that exclude each other", line(4, 5), trace(0, "", "1x0"), false, 2},
		{"bad is the constraint's negation", line(3), trace(0, "", "x00"), false, 2},
		{"a free latch", api.Circuit{Latches: []api.Latch{{Next: 2, Reset: api.X}}, Bads: []uint32{3}}, trace(0, "x", "", ""), true, 2},
		{"a latch 1 at first", api.Circuit{Latches: []api.Latch{{Next: 1, Reset: 1}}, Bads: []uint32{2}}, trace(0, "1", ""), true, 1},
		{"never both", api.Circuit{Inputs: 1, Gates: []api.Gate{{A: 3, B: 2}}, Bads: []uint32{4, 5}}, trace(0, "", "x"), false, 2},
		{"never both, negated", api.Circuit{Inputs: 1, Gates: []api.Gate{{A: 3, B: 2}}, Bads: []uint32{4, 5}}, trace(1, "", "x"), true, 2},
	} {
		if is, e := Fails(c.c, c.t); is != c.fails || e != api.OK {
			t.Errorf("%s: Fails = %t, %d", c.what, is, e)
		}
		if v, e := Surely(c.c, c.t); v != c.surely || e != api.OK {
			t.Errorf("%s: Surely = %d, %d", c.what, v, e)
		}
		checkMany(t, c.c, []api.Trace{c.t}, []bool{c.fails}, []bool{c.surely == 1})
	}
}

func checkMany(t *testing.T, c api.Circuit, l []api.Trace, fails, surely []bool) {
	t.Helper()
	f, s, e := Many(c, l)
	if f != bitsOf(fails) || s != bitsOf(surely) || e != api.OK {
		t.Errorf("Many(%d traces) = %b, %b, %d, not %b, %b", len(l), f, s, e, bitsOf(fails), bitsOf(surely))
	}
}

// bitsOf answers a bit for each one, the first one's being the least.
func bitsOf(l []bool) uint64 {
	n := uint64(0)
	for i, is := range l {
		if is {
			n += 1 << i
		}
	}
	return n
}

// P7.2: Many takes up to Side traces; bits behind the last of them stay 0, though what zeros make of the circuit fails.
func TestManyLengths(t *testing.T) {
	kinds := []struct {
		t             api.Trace
		fails, surely bool
	}{
		{trace(1, "", "x00", "000"), true, true},
		{trace(1, "", "010", "010"), false, false},
		{trace(1, "", "0x0", "0x0"), true, false},
		{trace(1, "", "000", "x00"), true, true},
		{trace(1, "", "x00", "010"), false, false},
	}
	for n := range 70 {
		var l []api.Trace
		var fails, surely []bool
		for i := range n {
			k := kinds[i*i%11%5]
			l, fails, surely = append(l, k.t), append(fails, k.fails), append(surely, k.surely)
		}
		if n <= api.Side {
			checkMany(t, line(), l, fails, surely)
		} else {
			manyRefused(t, line(), l...)
		}
	}
}

// P7.2: each of Side traces has the bit of its own place.
func TestManyPlaces(t *testing.T) {
	for i := range api.Side {
		for _, c := range []struct {
			most, one     string
			fails, surely uint64
		}{
			{"000", "100", 1 << i, 1 << i},
			{"100", "000", ^uint64(1 << i), ^uint64(1 << i)},
			{"100", "x00", ^uint64(1 << i), ^uint64(1 << i)},
			{"x00", "100", 1 << i, 1 << i},
		} {
			l := slices.Repeat([]api.Trace{trace(0, "", c.most)}, api.Side)
			l[i] = trace(0, "", c.one)
			if f, s, e := Many(line(), l); f != c.fails || s != c.surely || e != api.OK {
				t.Errorf("%s at %d among %s: Many = %x, %x, %d", c.one, i, c.most, f, s, e)
			}
		}
	}
}

// P7.2: without a trace there is none that does not fit.
func TestManyOfNone(t *testing.T) {
	for _, c := range append(wrongCircuits(), full(), api.Circuit{}) {
		for _, l := range [][]api.Trace{nil, {}} {
			if f, s, e := Many(c, l); f != 0 || s != 0 || e != api.OK {
				t.Errorf("Many = %x, %x, %d", f, s, e)
			}
		}
	}
}

// P7.2: what Many refuses, wherever it stands.
func TestManyErrors(t *testing.T) {
	fits := trace(0, "01x", "10", "0x")
	others := append(wrongTraces(),
		trace(1, "01x", "10", "0x"),
		trace(2, "010", "10", "00"),
		trace(0, "01x", "10"),
		trace(0, "01x", "10", "0x", "11"),
	)
	for _, x := range others {
		for _, n := range []int{2, 3, api.Side} {
			for _, i := range []int{0, 1, n - 1} {
				l := slices.Repeat([]api.Trace{fits}, n)
				l[i] = x
				manyRefused(t, full(), l...)
			}
		}
	}
	many := slices.Repeat([]api.Trace{fits}, 1000)
	for _, n := range []int{65, 66, 127, 128, 129, 256, 1000} {
		manyRefused(t, full(), many[:n]...)
	}
	if _, _, e := Many(full(), many[:api.Side]); e != api.OK {
		t.Errorf("Many: %d", e)
	}
}

// P7.1: Frame and Run do what DOC.md's words say, on circuits and values of all kinds.
func TestAgainstWords(t *testing.T) {
	roll := dice(1)
	for range 5000 {
		c := someCircuit(roll)
		state, inputs := someValues(roll, len(c.Latches), 3), someValues(roll, c.Inputs, 3)
		vars, next := judged(c, state, inputs)
		got, now, e := Frame(c, state, inputs)
		if !bytes.Equal(got, vars) || !bytes.Equal(now, next) || e != api.OK {
			t.Fatalf("Frame(%v, %v, %v) = %v, %v, %d, not %v, %v", c, state, inputs, got, now, e, vars, next)
		}
		x := someTrace(roll, c, 0, 1+roll(5), 2+roll(2))
		if l, e := Run(c, x); !sameRun(l, judgedRun(c, x)) || e != api.OK {
			t.Fatalf("Run(%v, %v) = %v, %d, not %v", c, x, l, e, judgedRun(c, x))
		}
	}
}

// P7.2, P7.3: Fails and Surely do what the words say, and Many agrees with them for each trace.
func TestManyAgrees(t *testing.T) {
	roll := dice(2)
	var seen [3]int
	for range 1000 {
		c := someCircuit(roll)
		bad, frames := roll(len(c.Bads)), 1+roll(5)
		var l []api.Trace
		var fails, surely []bool
		for range roll(api.Side + 1) {
			x := someTrace(roll, c, bad, frames, 2+roll(2))
			is, e := Fails(c, x)
			if is != judgedFails(c, x) || e != api.OK {
				t.Fatalf("Fails(%v, %v) = %t, %d", c, x, is, e)
			}
			v, e := Surely(c, x)
			if v != judgedSurely(c, x) || e != api.OK {
				t.Fatalf("Surely(%v, %v) = %d, %d", c, x, v, e)
			}
			seen[v]++
			l, fails, surely = append(l, x), append(fails, is), append(surely, v == 1)
		}
		checkMany(t, c, l, fails, surely)
	}
	for v, n := range seen {
		if n < 1000 {
			t.Errorf("Surely was %d only %d times", v, n)
		}
	}
}

// places answers where a trace has an X.
func places(t api.Trace) []*uint8 {
	var l []*uint8
	for _, values := range append([][]uint8{t.Init}, t.Frames...) {
		for i := range values {
			if values[i] == 2 {
				l = append(l, &values[i])
			}
		}
	}
	return l
}

// P7.3: what surely fails fails whatever its X are, each of them 0, 1 or still X; what surely does not never fails.
func TestSurelyHolds(t *testing.T) {
	roll := dice(3)
	var seen [3]int
	for range 3000 {
		c := someCircuit(roll)
		x := someTrace(roll, c, roll(len(c.Bads)), 1+roll(3), 3)
		open := places(x)
		v, _ := Surely(c, x)
		if len(open) == 0 || len(open) > 6 || v == 2 {
			continue
		}
		seen[v]++
		choices := 1
		for range open {
			choices *= 3
		}
		for n := range choices {
			for _, p := range open {
				*p, n = uint8(n%3), n/3
			}
			if is, e := Fails(c, x); is != (v == 1) || e != api.OK {
				t.Fatalf("Fails(%v, %v) = %t, %d, though it surely is %d", c, x, is, e, v)
			}
			if now, e := Surely(c, x); now != v || e != api.OK {
				t.Fatalf("Surely(%v, %v) = %d, %d, though it is %d with more X", c, x, now, e, v)
			}
		}
	}
	if seen[0] < 200 || seen[1] < 200 {
		t.Errorf("only %v surely are 0 and 1", seen)
	}
}

// P7.1: arguments and their spare capacity stay as they are, and results are new memory, list by list.
func TestSharesNothing(t *testing.T) {
	state, inputs := append(make([]uint8, 0, 99), 0, 1, 2), append(make([]uint8, 0, 99), 2, 1)
	c := full()
	vars, next, _ := Frame(c, state, inputs)
	want, after := judged(full(), state, inputs)
	for _, l := range [][]uint8{state, inputs, vars, next} {
		_ = append(l, 7, 7, 7, 7, 7, 7, 7, 7, 7, 7)
	}
	if !bytes.Equal(vars, want) || !bytes.Equal(next, after) {
		t.Errorf("Frame: lists run into each other: %v, %v", vars, next)
	}
	copy(state[:99], make([]uint8, 99))
	copy(inputs[:99], make([]uint8, 99))
	if !bytes.Equal(vars, want) || !bytes.Equal(next, after) {
		t.Errorf("Frame: a change to an argument: %v, %v", vars, next)
	}
	Frame(c, state, inputs)
	if !bytes.Equal(state[:99], make([]uint8, 99)) || !bytes.Equal(inputs[:99], make([]uint8, 99)) || !norm.Same(c, full()) {
		t.Errorf("Frame: an argument was changed: %v, %v, %v", c, state[:99], inputs[:99])
	}
	x := trace(0, "01x", "10", "x1", "x1", "00")
	x.Frames = append(make([][]uint8, 0, 9), x.Frames...)
	was := norm.CopyTrace(x)
	run, _ := Run(c, x)
	read := Read(x)
	Fails(c, x)
	Surely(c, x)
	list := append(make([]api.Trace, 0, 9), x, x)
	Many(c, list)
	if !norm.SameTrace(x, was) || !norm.SameTrace(list[1], was) || len(list[:9][2].Frames) > 0 || x.Frames[:9][4] != nil || !norm.Same(c, full()) {
		t.Errorf("an argument was changed: %v, %v", c, x)
	}
	checkApart(t, "Run", run, judgedRun(full(), was))
	checkApart(t, "Read", append([][]uint8{read.Init}, read.Frames...), append([][]uint8{zeroed(was).Init}, zeroed(was).Frames...))
	if !norm.SameTrace(x, was) {
		t.Errorf("a change to a result changed the argument: %v", x)
	}
}

// checkApart spoils one list after the other, and looks at those behind it.
func checkApart(t *testing.T, what string, l, want [][]uint8) {
	t.Helper()
	for i := range l {
		if !sameRun(l[i:], want[i:]) {
			t.Errorf("%s: a change to a list ahead of list %d: %v", what, i, l)
		}
		spoiled := append(l[i], 7, 7, 7, 7)
		for j := range l[i] {
			l[i][j], spoiled[j] = 9, 9
		}
	}
	for i := range l {
		if slices.ContainsFunc(l[i], func(v uint8) bool { return v != 9 }) {
			t.Errorf("%s: list %d was changed: %v", what, i, l[i])
		}
	}
}

// long is as many gates as there may be, each of which is the one ahead and an input; the last one is what the only latch is next.
func long() api.Circuit {
	c := api.Circuit{Inputs: 1, Latches: []api.Latch{{Next: 2 * api.MaxVars}}, Bads: []uint32{2 * api.MaxVars, 5}}
	for i := range uint32(api.MaxVars - 2) {
		c.Gates = append(c.Gates, api.Gate{A: 2*i + 4, B: 2})
	}
	c.Gates[0] = api.Gate{A: 3, B: 2}
	c.Gates[1] = api.Gate{A: 7, B: 2}
	return c
}

// P7.1, P7.2: as many variables, frames and traces as there may be.
func TestLimits(t *testing.T) {
	x := api.Trace{Init: []uint8{0}, Frames: slices.Repeat(frames("1"), api.MaxFrames)}
	l, e := Run(long(), x)
	if !sameRun(l, judgedRun(long(), x)) || len(l) != api.MaxFrames || l[0][api.MaxVars] != 1 || e != api.OK {
		t.Errorf("Run: %d frames, %d", len(l), e)
	}
	if is, e := Fails(long(), x); !is || e != api.OK {
		t.Errorf("Fails = %t, %d", is, e)
	}
	many := slices.Repeat([]api.Trace{x}, api.Side)
	many[0] = norm.CopyTrace(x)
	many[0].Frames[api.MaxFrames-1][0] = 0
	many[63] = norm.CopyTrace(x)
	many[63].Frames[0][0] = 2
	many[62] = norm.CopyTrace(x)
	many[62].Frames[api.MaxFrames-1][0] = 2
	if f, s, e := Many(long(), many); f != math.MaxUint64&^1&^(1<<62) || s != f || e != api.OK {
		t.Errorf("Many = %x, %x, %d", f, s, e)
	}
	x.Frames = append(x.Frames, []uint8{1})
	if l, e := Run(long(), x); len(l) > 0 || e != api.ErrArg {
		t.Errorf("Run: %d frames, %d", len(l), e)
	}
	wide := api.Circuit{Inputs: 4, Latches: slices.Repeat([]api.Latch{{Next: 3, Reset: api.X}}, api.MaxVars-4), Bads: []uint32{2 * api.MaxVars}, Constraints: slices.Repeat([]uint32{3}, api.MaxList)}
	y := api.Trace{Init: slices.Repeat([]uint8{2}, api.MaxVars-4), Frames: frames("0xxx", "01x1", "0000")}
	if v, e := Surely(wide, y); v != 1 || e != api.OK {
		t.Errorf("Surely = %d, %d", v, e)
	}
	if f, s, e := Many(wide, slices.Repeat([]api.Trace{y}, api.Side)); f != math.MaxUint64 || s != math.MaxUint64 || e != api.OK {
		t.Errorf("Many = %x, %x, %d", f, s, e)
	}
}

// The chapter's examples.
func TestExamples(t *testing.T) {
	c := api.Circuit{Inputs: 1, Latches: []api.Latch{{Next: 2, Reset: api.X}}, Bads: []uint32{4}}
	x := trace(0, "0", "1", "x")
	if l, e := Run(c, x); !sameRun(l, frames("010", "0x1")) || e != api.OK {
		t.Errorf("Run = %v, %d", l, e)
	}
	if is, e := Fails(c, x); !is || e != api.OK {
		t.Errorf("Fails = %t, %d", is, e)
	}
	for _, c2 := range []struct {
		t    api.Trace
		want uint8
	}{{x, 1}, {trace(0, "x", "0", "0"), 0}, {trace(0, "x", "x", "x"), 2}} {
		if v, e := Surely(c, c2.t); v != c2.want || e != api.OK {
			t.Errorf("Surely(%v) = %d, %d", c2.t, v, e)
		}
	}
}

// DOC.md, examples 2, 4 and 5 of the whole: what the latch becomes counts in the first frame alone, and an input that no gate uses does not count.
func TestExamplesOfTheWhole(t *testing.T) {
	c := api.Circuit{Inputs: 2, Latches: []api.Latch{{Next: 2}}, Bads: []uint32{6}}
	if v, e := Surely(c, trace(0, "0", "1x", "xx")); v != 1 || e != api.OK {
		t.Errorf("Surely = %d, %d", v, e)
	}
	if v, e := Surely(c, trace(0, "0", "x1", "11")); v != 2 || e != api.OK {
		t.Errorf("Surely = %d, %d", v, e)
	}
	c.Constraints = []uint32{4}
	if is, e := Fails(c, trace(0, "0", "11", "11")); !is || e != api.OK {
		t.Errorf("Fails = %t, %d", is, e)
	}
	if is, e := Fails(c, trace(0, "0", "10", "11")); is || e != api.OK {
		t.Errorf("Fails = %t, %d", is, e)
	}
}
