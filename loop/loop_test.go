package loop

import (
	"bytes"
	"math"
	"slices"
	"testing"

	"inquest/api"
	"inquest/norm"
	"inquest/sample"
	"inquest/sim"
)

var (
	dice        = sample.Dice
	digits      = sample.Digits
	frames      = sample.Frames
	someCircuit = sample.Circuit
	trace       = sample.Told
)

// zeroed answers a trace with each X read as 0.
func zeroed(t api.Trace) api.Trace {
	read := func(l []uint8) []uint8 { return bytes.ReplaceAll(l, []uint8{2}, []uint8{0}) }
	x := api.Trace{Bad: t.Bad, Init: read(t.Init)}
	for _, f := range t.Frames {
		x.Frames = append(x.Frames, read(f))
	}
	return x
}

// judged answers, straight from DOC.md's words, the states of a trace with each X read as 0, and whether it fails.
func judged(c api.Circuit, t api.Trace) (states [][]uint8, fails bool) {
	t = zeroed(t)
	state, good, bad := t.Init, true, false
	for _, inputs := range t.Frames {
		states = append(states, state)
		vars := slices.Concat([]uint8{0}, inputs, state)
		value := func(lit uint32) uint8 { return vars[lit/2] ^ uint8(lit%2) }
		for _, g := range c.Gates {
			vars = append(vars, min(value(g.A), value(g.B)))
		}
		for _, lit := range c.Constraints {
			good = good && value(lit) == 1
		}
		bad = value(c.Bads[t.Bad]) == 1
		state = nil
		for _, l := range c.Latches {
			state = append(state, value(l.Next))
		}
	}
	return states, good && bad
}

// lastLike answers the last frame with the state of frame i.
func lastLike(states [][]uint8, i int) int {
	for j := len(states) - 1; j > i; j-- {
		if bytes.Equal(states[i], states[j]) {
			return j
		}
	}
	return i
}

// judgedAgain answers what P8.1 says of a trace's states.
func judgedAgain(states [][]uint8) (from, to int, ok bool) {
	for i := range states {
		if j := lastLike(states, i); j > i {
			return i, j, true
		}
	}
	return 0, 0, false
}

// judgedCut answers the remaining trace, frame by frame as the chapter's Terms say, and the frames.
func judgedCut(t api.Trace, states [][]uint8) (api.Trace, []int) {
	var l []int
	for current := 0; current < len(states); current = l[len(l)-1] + 1 {
		l = append(l, lastLike(states, current))
	}
	t = zeroed(t)
	x := api.Trace{Bad: t.Bad, Init: states[l[0]]}
	for _, i := range l {
		x.Frames = append(x.Frames, t.Frames[i])
	}
	return x, l
}

func sameStates(a, b [][]uint8) bool { return slices.EqualFunc(a, b, bytes.Equal) }

// follower has the inputs 1 to 3 and three free latches, each of which is next what its input is; it always fails (bad 0), never (bad 1), or where the first latch is 1 (bad 2).
func follower() api.Circuit {
	return api.Circuit{
		Inputs:  3,
		Latches: []api.Latch{{Next: 2, Reset: api.X}, {Next: 4, Reset: api.X}, {Next: 6, Reset: api.X}},
		Bads:    []uint32{1, 0, 8},
	}
}

// through answers a trace of follower that passes through the states that a text of digits below 8 names.
func through(states string) api.Trace {
	var l [][]uint8
	for _, r := range states + "0" {
		n := uint8(r - '0')
		l = append(l, []uint8{n >> 2, n >> 1 & 1, n & 1})
	}
	return api.Trace{Init: l[0], Frames: l[1:]}
}

// full is the sample whose last bad literal always holds.
func full() api.Circuit {
	c := sample.Full()
	c.Bads[2] = 1
	return c
}

// P8.1: States.
func TestStates(t *testing.T) {
	for _, c := range []struct {
		what string
		c    api.Circuit
		t    api.Trace
		want [][]uint8
	}{
		{"one frame", full(), trace(0, "010", "00"), frames("010")},
		{"each frame's state", full(), trace(1, "010", "11", "10", "00"), frames("010", "110", "000")},
		{"X at first is 0", full(), trace(0, "01x", "11", "00"), frames("010", "110")},
		{"X of inputs is 0", full(), trace(0, "011", "x1", "1x", "00"), frames("011", "011", "010")},
		{"negations of X are 1", full(), trace(0, "01x", "xx", "xx"), frames("010", "001")},
		{"the last frame's inputs do not count", follower(), trace(1, "001", "010", "111"), frames("001", "010")},
		{"a trace that does not fail", follower(), trace(1, "101", "xxx", "1x0", "110"), frames("101", "000", "100")},
		{"no latch", api.Circuit{Inputs: 1, Bads: []uint32{2}}, trace(0, "", "1", "0", "x"), frames("", "", "")},
		{"no variable", api.Circuit{Bads: []uint32{0}}, trace(0, "", "", ""), frames("", "")},
		{"latches alone", api.Circuit{Latches: []api.Latch{{Next: 4, Reset: 1}, {Next: 3}}, Bads: []uint32{1}}, trace(0, "10", "", "", ""), frames("10", "00", "01")},
	} {
		if l, e := States(c.c, c.t); !sameStates(l, c.want) || e != api.OK {
			t.Errorf("%s: States = %v, %d", c.what, l, e)
		}
	}
}

// P8.1: Again, of the states that a text names.
func TestAgain(t *testing.T) {
	for _, c := range []struct {
		states   string
		from, to int
		ok       bool
	}{
		{"0", 0, 0, false},
		{"7", 0, 0, false},
		{"01234567", 0, 0, false},
		{"00", 0, 1, true},
		{"01", 0, 0, false},
		{"010", 0, 2, true},
		{"011", 1, 2, true},
		{"0111", 1, 3, true},
		{"01213", 1, 3, true},
		{"0122113", 1, 5, true},
		{"0123321", 1, 6, true},
		{"01234456", 4, 5, true},
		{"0110", 0, 3, true},
		{"0112233", 1, 2, true},
		{"71234567", 0, 7, true},
		{"000000", 0, 5, true},
		{"6543210123456", 0, 12, true},
	} {
		for bad := range 3 {
			x := through(c.states)
			x.Bad = bad
			if from, to, ok := Again(follower(), x); from != c.from || to != c.to || ok != c.ok {
				t.Errorf("Again(%s, bad %d) = %d, %d, %t", c.states, bad, from, to, ok)
			}
		}
	}
}

// P8.1: Again reads X as 0, and knows states by all latches, in their places.
func TestAgainOfValues(t *testing.T) {
	for _, c := range []struct {
		what     string
		t        api.Trace
		from, to int
		ok       bool
	}{
		{"X at first, then 0", trace(0, "x10", "010", "111"), 0, 1, true},
		{"X at first, then 1", trace(0, "x10", "110", "111"), 0, 0, false},
		{"0 at first, then X", trace(0, "010", "x1x", "111"), 0, 1, true},
		{"X, then X", trace(0, "1x1", "0xx", "x0x", "111"), 1, 2, true},
		{"the first latch differs", trace(0, "100", "000", "111"), 0, 0, false},
		{"the last latch differs", trace(0, "001", "000", "111"), 0, 0, false},
		{"the same values in other places", trace(0, "001", "010", "100", "111"), 0, 0, false},
		{"what the last frame leads to", trace(0, "001", "010", "001"), 0, 0, false},
	} {
		if from, to, ok := Again(follower(), c.t); from != c.from || to != c.to || ok != c.ok {
			t.Errorf("%s: Again = %d, %d, %t", c.what, from, to, ok)
		}
	}
	none := api.Circuit{Inputs: 1, Bads: []uint32{2}}
	if from, to, ok := Again(none, trace(0, "", "0")); from != 0 || to != 0 || ok {
		t.Errorf("no latch, one frame: Again = %d, %d, %t", from, to, ok)
	}
	if from, to, ok := Again(none, trace(0, "", "0", "1", "0", "1")); from != 0 || to != 3 || !ok {
		t.Errorf("no latch: Again = %d, %d, %t", from, to, ok)
	}
}

// P8.2: Cut, of the states that a text names; each remaining frame keeps its own inputs, the last one too.
func TestCut(t *testing.T) {
	for _, c := range []struct {
		states, frames string
		remain         []int
	}{
		{"0", "0", []int{0}},
		{"00", "0", []int{1}},
		{"01", "01", []int{0, 1}},
		{"010", "0", []int{2}},
		{"011", "01", []int{0, 2}},
		{"0101", "01", []int{2, 3}},
		{"01213", "013", []int{0, 3, 4}},
		{"01232145", "0145", []int{0, 5, 6, 7}},
		{"0110223343", "023", []int{3, 5, 9}},
		{"012012012", "012", []int{6, 7, 8}},
		{"0123012", "012", []int{4, 5, 6}},
		{"6543210123456", "6", []int{12}},
		{"1234567", "1234567", []int{0, 1, 2, 3, 4, 5, 6}},
		{"12341253", "1253", []int{4, 5, 6, 7}},
		{"77777770", "70", []int{6, 7}},
	} {
		x := through(c.states)
		x.Frames[len(x.Frames)-1] = []uint8{1, 0, 1}
		want := through(c.frames)
		want.Frames[len(want.Frames)-1] = []uint8{1, 0, 1}
		if got, l, e := Cut(follower(), x); !norm.SameTrace(got, want) || !slices.Equal(l, c.remain) || e != api.OK {
			t.Errorf("Cut(%s) = %v, %v, %d", c.states, got, l, e)
		}
	}
}

// P8.2: Cut answers X read as 0, and the bad literal as it was.
func TestCutOfValues(t *testing.T) {
	wire := api.Circuit{Inputs: 2, Latches: []api.Latch{{Next: 2, Reset: api.X}}, Bads: []uint32{6, 7, 4}, Constraints: []uint32{5}}
	for _, c := range []struct {
		what    string
		t, want api.Trace
		remain  []int
	}{
		{"nothing to cut", trace(1, "x", "xx"), trace(1, "0", "00"), []int{0}},
		{"X throughout", trace(1, "x", "xx", "xx", "xx"), trace(1, "0", "00"), []int{2}},
		{"X at first is the state 0", trace(0, "x", "0x", "10", "xx"), trace(0, "0", "10", "00"), []int{1, 2}},
		{"X as what the latch becomes", trace(1, "1", "x0", "1x", "x0", "xx"), trace(1, "1", "00", "00"), []int{2, 3}},
		{"the last frame's inputs stay", trace(0, "0", "10", "10"), trace(0, "0", "10", "10"), []int{0, 1}},
		{"the constraint in X", trace(0, "1", "1x", "1x", "xx"), trace(0, "1", "00"), []int{2}},
	} {
		if got, l, e := Cut(wire, c.t); !norm.SameTrace(got, c.want) || !slices.Equal(l, c.remain) || e != api.OK {
			t.Errorf("%s: Cut = %v, %v, %d", c.what, got, l, e)
		}
	}
	none := api.Circuit{Inputs: 1, Bads: []uint32{0, 2}}
	if got, l, e := Cut(none, trace(1, "", "0", "x", "1")); !norm.SameTrace(got, trace(1, "", "1")) || !slices.Equal(l, []int{2}) || e != api.OK {
		t.Errorf("no latch: Cut = %v, %v, %d", got, l, e)
	}
}

// P8.2: what does not fail is refused, even where only a frame that would go breaks a constraint.
func TestCutState(t *testing.T) {
	wire := api.Circuit{Inputs: 2, Latches: []api.Latch{{Next: 2, Reset: api.X}}, Bads: []uint32{6, 7, 4}, Constraints: []uint32{5}}
	for _, c := range []struct {
		what string
		c    api.Circuit
		t    api.Trace
	}{
		{"bad is never 1", follower(), trace(1, "000", "000", "000")},
		{"bad is 0", wire, trace(0, "0", "00")},
		{"bad is 1 ahead of the last frame alone", wire, trace(0, "1", "00", "00")},
		{"bad is X", wire, trace(0, "x", "00")},
		{"bad is X, behind others", wire, trace(0, "1", "x0", "00")},
		{"a constraint in the last frame", wire, trace(0, "1", "01")},
		{"a constraint in the first frame", wire, trace(0, "0", "11", "00")},
		{"a constraint in a frame that would go", wire, trace(0, "1", "11", "10", "10")},
		{"bad wants what the constraint forbids", wire, trace(2, "0", "01")},
		{"bad is X where the constraint is 1", wire, trace(2, "0", "0x")},
	} {
		if got, l, e := Cut(c.c, c.t); !norm.SameTrace(got, api.Trace{}) || len(l) > 0 || e != api.ErrState {
			t.Errorf("%s: Cut = %v, %v, %d", c.what, got, l, e)
		}
		if l, e := States(c.c, c.t); len(l) != len(c.t.Frames) || e != api.OK {
			t.Errorf("%s: States = %v, %d", c.what, l, e)
		}
	}
}

// refused checks that a trace that does not fit is answered as such by each of the functions.
func refused(t *testing.T, what string, c api.Circuit, x api.Trace) {
	t.Helper()
	if l, e := States(c, x); len(l) > 0 || e != api.ErrArg {
		t.Errorf("%s: States = %v, %d", what, l, e)
	}
	if from, to, ok := Again(c, x); from != 0 || to != 0 || ok {
		t.Errorf("%s: Again = %d, %d, %t", what, from, to, ok)
	}
	if got, l, e := Cut(c, x); !norm.SameTrace(got, api.Trace{}) || len(l) > 0 || e != api.ErrArg {
		t.Errorf("%s: Cut = %v, %v, %d", what, got, l, e)
	}
}

// P8.1, P8.2: traces that do not fit; some of them would if they were read without X, and some would not fail either.
func TestMisfits(t *testing.T) {
	for _, c := range []struct {
		what string
		t    api.Trace
	}{
		{"nothing", api.Trace{}},
		{"bad below 0", trace(-1, "01x", "00", "00")},
		{"bad too great", trace(3, "01x", "00", "00")},
		{"least bad", trace(math.MinInt, "01x", "00")},
		{"greatest bad", trace(math.MaxInt, "01x", "00")},
		{"a latch too few", trace(2, "01", "00", "00")},
		{"a latch too many", trace(2, "01x0", "00", "00")},
		{"no latch", trace(2, "", "00", "00")},
		{"1 where 0 is first", trace(2, "11x", "00", "00")},
		{"0 where 1 is first", trace(0, "00x", "00", "00")},
		{"X where 0 is first", trace(2, "x1x", "00", "00")},
		{"X where 1 is first", trace(0, "0xx", "00", "00")},
		{"no frame", trace(2, "01x")},
		{"a frame too many", trace(2, "01x", slices.Repeat([]string{"00"}, api.MaxFrames+1)...)},
		{"an input too few", trace(2, "01x", "0", "0")},
		{"an input too many", trace(2, "01x", "000", "000")},
		{"an empty frame", trace(2, "01x", "00", "", "00")},
		{"a last frame too short", trace(2, "01x", "00", "01", "1")},
		{"no value among latches", api.Trace{Bad: 2, Init: []uint8{0, 1, 3}, Frames: frames("00", "00")}},
		{"the greatest byte among latches", api.Trace{Bad: 2, Init: []uint8{0, 1, 255}, Frames: frames("00", "00")}},
		{"no value among inputs", api.Trace{Bad: 2, Init: digits("01x"), Frames: [][]uint8{{0, 0}, {0, 3}}}},
		{"the greatest byte among inputs", api.Trace{Bad: 2, Init: digits("01x"), Frames: [][]uint8{{0, 0}, {255, 0}}}},
	} {
		refused(t, c.what, full(), c.t)
	}
}

// P8.1, P8.2: circuits that are not valid.
func TestWrongCircuits(t *testing.T) {
	x := trace(2, "01x", "00", "00")
	for i, c := range sample.WrongCircuits() {
		refused(t, "circuit "+string(rune('a'+i)), c, x)
	}
	c := full()
	c.Bads = c.Bads[:2]
	refused(t, "a bad literal too few", c, x)
	refused(t, "no circuit", api.Circuit{}, x)
	refused(t, "neither", api.Circuit{}, api.Trace{})
}

// P8.1, P8.2: the functions do what the words say, on circuits and traces of all kinds.
func TestAgainstWords(t *testing.T) {
	roll := dice(1)
	fine, none, shorter := 0, 0, 0
	for range 20000 {
		c := someCircuit(roll)
		x := sample.Trace(roll, c, roll(len(c.Bads)), 1+roll(12), 2+roll(2))
		states, fails := judged(c, x)
		if l, e := States(c, x); !sameStates(l, states) || e != api.OK {
			t.Fatalf("States(%v, %v) = %v, %d, not %v", c, x, l, e, states)
		}
		a, b, is := judgedAgain(states)
		if from, to, ok := Again(c, x); from != a || to != b || ok != is {
			t.Fatalf("Again(%v, %v) = %d, %d, %t, not %d, %d, %t", c, x, from, to, ok, a, b, is)
		}
		want, remain, e := api.Trace{}, []int(nil), api.ErrState
		if fails {
			want, remain = judgedCut(x, states)
			e = api.OK
		}
		got, l, err := Cut(c, x)
		if !norm.SameTrace(got, want) || !slices.Equal(l, remain) || err != e {
			t.Fatalf("Cut(%v, %v) = %v, %v, %d, not %v, %v, %d", c, x, got, l, err, want, remain, e)
		}
		switch {
		case !fails:
			none++
		case len(remain) < len(states):
			shorter++
		default:
			fine++
		}
	}
	if fine < 1000 || none < 1000 || shorter < 1000 {
		t.Errorf("%d were cut, %d were not, %d could not be", shorter, fine, none)
	}
}

// P8.3: what remains of a trace.
func TestConsequences(t *testing.T) {
	roll := dice(2)
	shorter := 0
	for range 10000 {
		c := someCircuit(roll)
		x := sample.Trace(roll, c, roll(len(c.Bads)), 1+roll(20), 2+roll(2))
		got, remain, e := Cut(c, x)
		if e != api.OK {
			continue
		}
		if is, e := sim.Fails(c, got); !is || e != api.OK || got.Bad != x.Bad {
			t.Fatalf("Cut(%v, %v) = %v, which does not fail: %d", c, x, got, e)
		}
		if len(got.Frames) > len(x.Frames) || len(remain) != len(got.Frames) {
			t.Fatalf("Cut(%v, %v) = %v, %v, with too many frames", c, x, got, remain)
		}
		checkFrames(t, c, x, got, remain)
		if from, to, ok := Again(c, got); ok {
			t.Fatalf("Cut(%v, %v) = %v, whose frames %d and %d are alike", c, x, got, from, to)
		}
		again, all, e := Cut(c, got)
		if !norm.SameTrace(again, got) || e != api.OK {
			t.Fatalf("Cut(%v, %v) = %v, and again %v, %d", c, x, got, again, e)
		}
		for i := range got.Frames {
			if len(all) != len(got.Frames) || all[i] != i {
				t.Fatalf("Cut(%v, %v) = %v, %v, %d", c, got, again, all, e)
			}
		}
		if len(got.Frames) < len(x.Frames) {
			shorter++
		}
	}
	if shorter < 1000 {
		t.Errorf("only %d were cut", shorter)
	}
}

// checkFrames looks whether each remaining frame is a frame of the trace, in order, with the same state and the same inputs.
func checkFrames(t *testing.T, c api.Circuit, x, got api.Trace, remain []int) {
	t.Helper()
	was, _ := judged(c, x)
	now, _ := judged(c, got)
	read := zeroed(x)
	for i, f := range remain {
		if f < 0 || f >= len(was) || i > 0 && f <= remain[i-1] {
			t.Fatalf("Cut(%v, %v): frames %v", c, x, remain)
		}
		if !bytes.Equal(now[i], was[f]) || !bytes.Equal(got.Frames[i], read.Frames[f]) {
			t.Fatalf("Cut(%v, %v) = %v: frame %d is not frame %d", c, x, got, i, f)
		}
	}
	if remain[len(remain)-1] != len(was)-1 {
		t.Fatalf("Cut(%v, %v): the last frame is not among %v", c, x, remain)
	}
}

// P8.1, P8.2: arguments and their spare capacity stay as they are, and results are new memory, list by list.
func TestSharesNothing(t *testing.T) {
	c := follower()
	shared := append(make([]uint8, 0, 9), 0, 0, 1)
	x := api.Trace{Init: append(make([]uint8, 0, 9), 2, 0, 1), Frames: append(make([][]uint8, 0, 9), shared, digits("010"), digits("10x"), shared)}
	was := norm.CopyTrace(x)
	states, _ := States(c, x)
	Again(c, x)
	got, l, e := Cut(c, x)
	wanted, remain := judgedCut(was, frames("001", "001", "010", "100"))
	if !norm.SameTrace(got, wanted) || !slices.Equal(l, remain) || e != api.OK {
		t.Errorf("Cut = %v, %v, %d", got, l, e)
	}
	if !norm.SameTrace(x, was) || !norm.Same(c, follower()) || !bytes.Equal(x.Init[:9][3:], make([]uint8, 6)) || !bytes.Equal(shared[:9][3:], make([]uint8, 6)) || x.Frames[:9][4] != nil {
		t.Errorf("an argument was changed: %v, %v", c, x)
	}
	checkApart(t, "States", states, frames("001", "001", "010", "100"))
	checkApart(t, "Cut", append([][]uint8{got.Init}, got.Frames...), append([][]uint8{wanted.Init}, wanted.Frames...))
	if !norm.SameTrace(x, was) {
		t.Errorf("a change to a result changed the argument: %v", x)
	}
	same := api.Trace{Init: digits("000"), Frames: slices.Repeat([][]uint8{digits("001")}, 3)}
	got, _, _ = Cut(follower(), same)
	checkApart(t, "Cut of frames that are one", got.Frames, frames("001", "001"))
	if !norm.SameTrace(same, trace(0, "000", "001", "001", "001")) {
		t.Errorf("a change to a result changed the argument: %v", same)
	}
}

// checkApart spoils one list after the other, and looks at those behind it.
func checkApart(t *testing.T, what string, l, want [][]uint8) {
	t.Helper()
	if len(l) != len(want) {
		t.Errorf("%s: %v", what, l)
	}
	for i := range l {
		if !sameStates(l[i:], want[i:]) {
			t.Errorf("%s: a change to a list ahead of list %d: %v", what, i, l)
		}
		spoiled := append(l[i], 7, 7, 7, 7)
		for j := range l[i] {
			l[i][j], spoiled[j] = 9, 9
		}
	}
	for i := range l {
		if slices.ContainsFunc(l[i], func(v uint8) bool { return v != 9 }) {
			t.Errorf("%s: list %d was changed: %v", what, i, l[i])
		}
	}
}

// P8.1, P8.2: as many frames as there may be, all of different states; and one more.
func TestMostFrames(t *testing.T) {
	c := sample.Counter(8)
	x := api.Trace{Init: make([]uint8, 8), Frames: slices.Repeat(frames("1"), api.MaxFrames)}
	l, e := States(c, x)
	if len(l) != api.MaxFrames || e != api.OK {
		t.Fatalf("States: %d, %d", len(l), e)
	}
	for n, s := range l {
		for i, v := range s {
			if v != uint8(n>>i&1) {
				t.Fatalf("state %d: %v", n, s)
			}
		}
	}
	if from, to, ok := Again(c, x); from != 0 || to != 0 || ok {
		t.Errorf("Again = %d, %d, %t", from, to, ok)
	}
	if got, remain, e := Cut(c, x); !norm.SameTrace(got, x) || len(remain) != api.MaxFrames || remain[255] != 255 || e != api.OK {
		t.Errorf("Cut = %v, %v, %d", got, remain, e)
	}
	x.Frames[100] = []uint8{2}
	y := norm.CopyTrace(x)
	y.Frames = slices.Delete(y.Frames, 100, 101)
	if from, to, ok := Again(c, x); from != 100 || to != 101 || !ok {
		t.Errorf("Again = %d, %d, %t", from, to, ok)
	}
	if got, remain, e := Cut(c, x); !norm.SameTrace(got, y) || len(remain) != api.MaxFrames-1 || remain[99] != 99 || remain[100] != 101 || e != api.OK {
		t.Errorf("Cut = %v, %v, %d", got, remain, e)
	}
	x.Frames = append(x.Frames, []uint8{1})
	refused(t, "a frame too many", c, x)
}

// P8.1, P8.2: as many latches as there may be.
func TestMostLatches(t *testing.T) {
	c := api.Circuit{Inputs: 1, Bads: []uint32{2 * api.MaxVars}}
	for i := range uint32(api.MaxVars - 1) {
		c.Latches = append(c.Latches, api.Latch{Next: 2*i + 2})
	}
	x := api.Trace{Init: make([]uint8, api.MaxVars-1), Frames: slices.Repeat(frames("0"), api.MaxFrames)}
	x.Frames[0] = []uint8{1}
	if from, to, ok := Again(c, x); ok {
		t.Errorf("Again = %d, %d, %t", from, to, ok)
	}
	if got, l, e := Cut(c, x); !norm.SameTrace(got, api.Trace{}) || len(l) > 0 || e != api.ErrState {
		t.Errorf("Cut: %d", e)
	}
	c.Bads[0]++
	if _, l, e := Cut(c, x); len(l) != api.MaxFrames || e != api.OK {
		t.Errorf("Cut = %v, %d", l, e)
	}
	x.Frames[0], x.Frames[200] = []uint8{0}, []uint8{1}
	if from, to, ok := Again(c, x); from != 0 || to != 200 || !ok {
		t.Errorf("Again = %d, %d, %t", from, to, ok)
	}
	if _, l, e := Cut(c, x); len(l) != 56 || l[0] != 200 || l[55] != 255 || e != api.OK {
		t.Errorf("Cut = %v, %d", l, e)
	}
}

// The chapter's example; DOC.md, example 3 of the whole.
func TestExamples(t *testing.T) {
	c := api.Circuit{Inputs: 1, Latches: []api.Latch{{Next: 2}}, Bads: []uint32{4}}
	x := trace(0, "0", "0", "0", "1", "1")
	if l, e := States(c, x); !sameStates(l, frames("0", "0", "0", "1")) || e != api.OK {
		t.Errorf("States = %v, %d", l, e)
	}
	if from, to, ok := Again(c, x); from != 0 || to != 2 || !ok {
		t.Errorf("Again = %d, %d, %t", from, to, ok)
	}
	if got, l, e := Cut(c, x); !norm.SameTrace(got, trace(0, "0", "1", "1")) || !slices.Equal(l, []int{2, 3}) || e != api.OK {
		t.Errorf("Cut = %v, %v, %d", got, l, e)
	}
}
