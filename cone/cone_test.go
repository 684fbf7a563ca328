package cone

import (
	"math"
	"slices"
	"testing"

	"inquest/api"
	"inquest/norm"
	"inquest/sample"
	"inquest/sim"
)

// shown answers a digit for each variable, from variable 0 on: 1 where it matters.
func shown(l []bool) string {
	b := make([]byte, len(l))
	for i, is := range l {
		b[i] = '0'
		if is {
			b[i] = '1'
		}
	}
	return string(b)
}

func shownAll(l [][]bool) []string {
	var all []string
	for _, x := range l {
		all = append(all, shown(x))
	}
	return all
}

// judgedOf answers, straight from the chapter's words, what matters within a frame. A gate's literals are of smaller variables: one pass downward finds all.
func judgedOf(c api.Circuit, lits []uint32) []bool {
	first := 1 + c.Inputs + len(c.Latches)
	l := make([]bool, first+len(c.Gates))
	for _, lit := range lits {
		l[lit/2] = true
	}
	for i := len(c.Gates) - 1; i >= 0; i-- {
		if l[first+i] {
			l[c.Gates[i].A/2], l[c.Gates[i].B/2] = true, true
		}
	}
	l[0] = false
	return l
}

// judgedNexts answers the Next of each latch that matters.
func judgedNexts(c api.Circuit, matters []bool) []uint32 {
	var lits []uint32
	for i, l := range c.Latches {
		if matters[1+c.Inputs+i] {
			lits = append(lits, l.Next)
		}
	}
	return lits
}

// judgedEver goes back frame by frame until nothing comes in addition.
func judgedEver(c api.Circuit, lits []uint32) []bool {
	l := judgedOf(c, lits)
	for {
		lits = append(slices.Clone(lits), judgedNexts(c, l)...)
		more := judgedOf(c, lits)
		if slices.Equal(l, more) {
			return l
		}
		l = more
	}
}

func judgedFrames(c api.Circuit, bad, frames int) [][]bool {
	l := [][]bool{judgedOf(c, append([]uint32{c.Bads[bad]}, c.Constraints...))}
	for len(l) < frames {
		lits := append(judgedNexts(c, l[0]), c.Constraints...)
		l = append([][]bool{judgedOf(c, lits)}, l...)
	}
	return l
}

// unneeded answers, for each place in a trace, whether it is one that may become anything: an input, or a free latch, that does not matter.
func unneeded(c api.Circuit, t api.Trace) (latches []bool, inputs [][]bool) {
	l := judgedFrames(c, t.Bad, len(t.Frames))
	for i, x := range c.Latches {
		latches = append(latches, x.Reset == 2 && !l[0][1+c.Inputs+i])
	}
	for _, matters := range l {
		var frame []bool
		for i := range c.Inputs {
			frame = append(frame, !matters[1+i])
		}
		inputs = append(inputs, frame)
	}
	return latches, inputs
}

// replaced answers the trace with values from a function in place of those that are not needed, and how many these are.
func replaced(c api.Circuit, t api.Trace, value func() uint8) (api.Trace, int) {
	x, many := norm.CopyTrace(t), 0
	latches, inputs := unneeded(c, t)
	put := func(l []uint8, where []bool) {
		for i := range l {
			if where[i] {
				l[i] = value()
				many++
			}
		}
	}
	put(x.Init, latches)
	for f := range x.Frames {
		put(x.Frames[f], inputs[f])
	}
	return x, many
}

func judgedFree(c api.Circuit, t api.Trace) api.Trace {
	x, _ := replaced(c, t, func() uint8 { return 2 })
	return x
}

// ring has input 1 and latches 2 to 5, of which 2 to 4 go round, 5 is always what it was.
func ring() api.Circuit {
	return api.Circuit{
		Inputs:  1,
		Latches: []api.Latch{{Next: 7}, {Next: 8, Reset: 1}, {Next: 5, Reset: api.X}, {Next: 10, Reset: api.X}},
		Bads:    []uint32{4, 11},
	}
}

// same is made of gates whose values do not hang on all that they are made of: never both, twice one, never 1, always one of them.
func same() api.Circuit {
	return api.Circuit{
		Inputs:  2,
		Latches: []api.Latch{{Next: 0}, {Next: 1, Reset: api.X}},
		Gates:   []api.Gate{{A: 3, B: 2}, {A: 4, B: 4}, {A: 6, B: 0}, {A: 8, B: 1}, {A: 16, B: 14}},
		Bads:    []uint32{10},
	}
}

type question struct {
	what string
	c    api.Circuit
	lits []uint32
	want string
}

func checkLists(t *testing.T, name string, call func(api.Circuit, []uint32) ([]bool, api.Errno), l []question) {
	t.Helper()
	for _, q := range l {
		if got, e := call(q.c, q.lits); shown(got) != q.want || e != api.OK {
			t.Errorf("%s: %s = %s, %d, not %s", q.what, name, shown(got), e, q.want)
		}
	}
}

// P9.1: Of.
func TestOf(t *testing.T) {
	full := sample.Full()
	checkLists(t, "Of", Of, []question{
		{"nothing", full, nil, "0000000000"},
		{"false", full, []uint32{0}, "0000000000"},
		{"true", full, []uint32{1}, "0000000000"},
		{"an input", full, []uint32{2}, "0100000000"},
		{"a negated input", full, []uint32{5}, "0010000000"},
		{"a latch, without its Next", full, []uint32{6}, "0001000000"},
		{"a negated free latch", full, []uint32{11}, "0000010000"},
		{"a gate of inputs", full, []uint32{12}, "0110001000"},
		{"a negated gate", full, []uint32{13}, "0110001000"},
		{"a gate of negated literals", full, []uint32{14}, "0110011100"},
		{"a gate of a constant", full, []uint32{16}, "0110011110"},
		{"a gate of latches", full, []uint32{18}, "0001100001"},
		{"two literals", full, []uint32{10, 18}, "0001110001"},
		{"a literal twice, and its negation", full, []uint32{12, 12, 13}, "0110001000"},
		{"the greater one first", full, []uint32{14, 12, 1, 2}, "0110011100"},
		{"the smaller one first", full, []uint32{2, 1, 12, 14}, "0110011100"},
		{"all", full, []uint32{19, 17, 9, 7}, "0111111111"},
		{"a gate of both", same(), []uint32{10}, "0100010000"},
		{"a gate of one, twice", same(), []uint32{12}, "0010001000"},
		{"a gate that is never 1", same(), []uint32{15}, "0001000100"},
		{"a gate of gates", same(), []uint32{18}, "0001100111"},
		{"a latch of latches", ring(), []uint32{4}, "001000"},
		{"no variable", api.Circuit{}, nil, "0"},
		{"no variable, both constants", api.Circuit{}, []uint32{1, 0}, "0"},
		{"gates alone", api.Circuit{Gates: []api.Gate{{A: 1, B: 0}, {A: 2, B: 1}}}, []uint32{5}, "011"},
		{"inputs alone", api.Circuit{Inputs: 3}, []uint32{6, 2}, "0101"},
	})
}

// P9.1: Ever.
func TestEver(t *testing.T) {
	full := sample.Full()
	checkLists(t, "Ever", Ever, []question{
		{"nothing", full, nil, "0000000000"},
		{"constants", full, []uint32{0, 1}, "0000000000"},
		{"an input", full, []uint32{3}, "0100000000"},
		{"a gate of inputs", full, []uint32{12}, "0110001000"},
		{"a latch, then a gate", full, []uint32{6}, "0111001000"},
		{"a latch, then a gate, then a latch", full, []uint32{8}, "0110111100"},
		{"a negated latch, then an input", full, []uint32{11}, "0100010000"},
		{"a gate of latches", full, []uint32{18}, "0111111101"},
		{"a negated one", full, []uint32{19}, "0111111101"},
		{"two literals", full, []uint32{10, 6}, "0111011000"},
		{"all", full, []uint32{17, 19}, "0111111111"},
		{"all round, from the first one", ring(), []uint32{4}, "001110"},
		{"all round, from the last one", ring(), []uint32{9}, "001110"},
		{"a latch that stays", ring(), []uint32{10}, "000001"},
		{"both", ring(), []uint32{11, 7}, "001111"},
		{"a latch that is next 0", same(), []uint32{6}, "0001000000"},
		{"a gate of latches that become constants", same(), []uint32{18}, "0001100111"},
		{"no variable", api.Circuit{}, []uint32{0}, "0"},
		{"a latch alone", api.Circuit{Latches: []api.Latch{{Next: 3}}}, []uint32{2}, "01"},
		{"latches alone", api.Circuit{Latches: []api.Latch{{Next: 1}, {Next: 2}, {Next: 5}}}, []uint32{6}, "0111"},
	})
}

// P9.2: Frames.
func TestFrames(t *testing.T) {
	full := sample.Full()
	lax := sample.Full()
	lax.Constraints = nil
	held := ring()
	held.Constraints = []uint32{9, 2}
	for _, c := range []struct {
		what        string
		c           api.Circuit
		bad, frames int
		want        []string
	}{
		{"one frame", full, 0, 1, []string{"0111101001"}},
		{"two frames", full, 0, 2, []string{"0110011100", "0111101001"}},
		{"three frames", full, 0, 3, []string{"0110001000", "0110011100", "0111101001"}},
		{"four frames", full, 0, 4, []string{"0110001000", "0110001000", "0110011100", "0111101001"}},
		{"the next bad literal", full, 1, 3, []string{"0110001000", "0110001000", "0110011110"}},
		{"the last bad literal", full, 2, 2, []string{"0110001000", "0110011000"}},
		{"no constraint", lax, 0, 4, []string{"0000000000", "0100000000", "0110011100", "0001100001"}},
		{"no constraint, no latch", lax, 1, 3, []string{"0000000000", "0100000000", "0110011110"}},
		{"round", ring(), 0, 5, []string{"000100", "001000", "000010", "000100", "001000"}},
		{"a latch that stays", ring(), 1, 3, []string{"000001", "000001", "000001"}},
		{"constraints on latches", held, 0, 3, []string{"011110", "011110", "011010"}},
		{"latches that become constants", same(), 0, 2, []string{"0000000000", "0100010000"}},
		{"no variable", api.Circuit{Bads: []uint32{1}}, 0, 2, []string{"0", "0"}},
	} {
		if l, e := Frames(c.c, c.bad, c.frames); !slices.Equal(shownAll(l), c.want) || e != api.OK {
			t.Errorf("%s: Frames = %v, %d, not %v", c.what, shownAll(l), e, c.want)
		}
	}
}

// P9.2: Free.
func TestFree(t *testing.T) {
	told := sample.Told
	full := sample.Full()
	lax := sample.Full()
	lax.Constraints = nil
	// Inputs 1 and 2; a latch that is next the first one, and a free one that nothing is made of.
	wire := api.Circuit{Inputs: 2, Latches: []api.Latch{{Next: 2}, {Next: 4, Reset: api.X}}, Bads: []uint32{6, 5, 0}}
	held := api.Circuit{Inputs: 2, Latches: wire.Latches, Bads: wire.Bads, Constraints: []uint32{9}}
	for _, c := range []struct {
		what    string
		c       api.Circuit
		t, want api.Trace
	}{
		{"the input ahead of the last frame", wire, told(0, "00", "01", "10", "11"), told(0, "0x", "xx", "1x", "xx")},
		{"a latch that is not free stays", wire, told(0, "01", "01"), told(0, "0x", "xx")},
		{"a latch that is 1 at first stays", lax, told(2, "011", "11", "01"), told(2, "01x", "1x", "xx")},
		{"an input of the last frame", wire, told(1, "01", "00", "10"), told(1, "0x", "xx", "x0")},
		{"nothing matters", wire, told(2, "01", "00", "10"), told(2, "0x", "xx", "xx")},
		{"a constraint on a free latch", held, told(2, "00", "10", "11"), told(2, "00", "x0", "xx")},
		{"what matters is X already", held, told(0, "0x", "xx", "xx"), told(0, "0x", "xx", "xx")},
		{"a free latch that matters", lax, told(2, "011", "11"), told(2, "011", "xx")},
		{"a free latch that matters later", full, told(0, "011", "01", "10"), told(0, "011", "01", "10")},
		{"constraints keep inputs in each frame", full, told(2, "010", "10", "01"), told(2, "01x", "10", "01")},
		{"a trace that does not fail", ring(), told(0, "0101", "0", "1"), told(0, "01xx", "x", "x")},
		{"a latch that comes round", ring(), told(0, "0101", "0", "1", "0"), told(0, "010x", "x", "x", "x")},
		{"gates that do not hang on them", same(), told(0, "01", "11"), told(0, "0x", "1x")},
		{"no variable", api.Circuit{Bads: []uint32{1}}, told(0, "", "", ""), told(0, "", "", "")},
	} {
		if got, e := Free(c.c, c.t); !norm.SameTrace(got, c.want) || e != api.OK {
			t.Errorf("%s: Free = %v, %d, not %v", c.what, got, e, c.want)
		}
	}
}

// P9.1: circuits that are not valid, and literals that do not exist, alone or among others.
func TestListsRefused(t *testing.T) {
	refused := func(c api.Circuit, lits []uint32) {
		t.Helper()
		if l, e := Of(c, lits); len(l) > 0 || e != api.ErrArg {
			t.Errorf("Of(%v, %v) = %v, %d", c, lits, l, e)
		}
		if l, e := Ever(c, lits); len(l) > 0 || e != api.ErrArg {
			t.Errorf("Ever(%v, %v) = %v, %d", c, lits, l, e)
		}
	}
	for _, c := range sample.WrongCircuits() {
		refused(c, nil)
		refused(c, []uint32{0})
		refused(c, []uint32{2, 18})
	}
	for _, lit := range []uint32{20, 21, 22, 2 * api.MaxVars, 2*api.MaxVars + 2, 1 << 16, math.MaxInt32, 1 << 31, 1<<31 + 2, math.MaxUint32} {
		refused(sample.Full(), []uint32{lit})
		refused(sample.Full(), []uint32{lit, 2, 4})
		refused(sample.Full(), []uint32{2, lit, 4})
		refused(sample.Full(), []uint32{2, 4, lit})
		refused(api.Circuit{}, []uint32{lit})
	}
	refused(api.Circuit{}, []uint32{2})
	refused(api.Circuit{}, []uint32{0, 1, 3})
}

// P9.2: circuits that are not valid, bad literals that do not exist, and numbers of frames that can't be.
func TestFramesRefused(t *testing.T) {
	refused := func(c api.Circuit, bad, frames int) {
		t.Helper()
		if l, e := Frames(c, bad, frames); len(l) > 0 || e != api.ErrArg {
			t.Errorf("Frames(%v, %d, %d) = %v, %d", c, bad, frames, l, e)
		}
	}
	for _, c := range sample.WrongCircuits() {
		refused(c, 0, 1)
		refused(c, 2, api.MaxFrames)
	}
	for _, bad := range []int{-1, 3, 4, api.MaxList, 1 << 31, math.MinInt, math.MaxInt} {
		refused(sample.Full(), bad, 1)
		refused(sample.Full(), bad, 0)
	}
	for _, frames := range []int{0, -1, api.MaxFrames + 1, 1 << 16, 1<<31 + 1, math.MinInt, math.MaxInt} {
		refused(sample.Full(), 0, frames)
		refused(sample.Full(), 3, frames)
	}
	refused(api.Circuit{}, 0, 1)
	refused(api.Circuit{Outputs: []uint32{1}, Constraints: []uint32{1}}, 0, 1)
}

// P9.2: traces that do not fit.
func TestFreeRefused(t *testing.T) {
	refused := func(c api.Circuit, x api.Trace) {
		t.Helper()
		if got, e := Free(c, x); !norm.SameTrace(got, api.Trace{}) || e != api.ErrArg {
			t.Errorf("Free(%v, %v) = %v, %d", c, x, got, e)
		}
	}
	for _, x := range sample.WrongTraces() {
		refused(sample.Full(), x)
	}
	for _, c := range sample.WrongCircuits() {
		refused(c, sample.Told(0, "01x", "00"))
	}
	refused(api.Circuit{}, api.Trace{})
	refused(api.Circuit{}, sample.Told(0, "", ""))
}

func someLits(roll func(int) int, c api.Circuit) []uint32 {
	lits := make([]uint32, roll(4))
	for i := range lits {
		lits[i] = uint32(roll(2 + 2*norm.Vars(c)))
	}
	return lits
}

// P9.1, P9.2: the functions do what the chapter's words say, on circuits and traces of all kinds.
func TestAgainstWords(t *testing.T) {
	roll := sample.Dice(1)
	for range 10000 {
		c := sample.Circuit(roll)
		lits := someLits(roll, c)
		if l, e := Of(c, lits); !slices.Equal(l, judgedOf(c, lits)) || e != api.OK {
			t.Fatalf("Of(%v, %v) = %v, %d", c, lits, l, e)
		}
		if l, e := Ever(c, lits); !slices.Equal(l, judgedEver(c, lits)) || e != api.OK {
			t.Fatalf("Ever(%v, %v) = %v, %d", c, lits, l, e)
		}
		bad, frames := roll(len(c.Bads)), 1+roll(8)
		if l, e := Frames(c, bad, frames); !slices.EqualFunc(l, judgedFrames(c, bad, frames), slices.Equal) || e != api.OK {
			t.Fatalf("Frames(%v, %d, %d) = %v, %d", c, bad, frames, l, e)
		}
		x := sample.Trace(roll, c, bad, frames, 2+roll(2))
		if got, e := Free(c, x); !norm.SameTrace(got, judgedFree(c, x)) || e != api.OK {
			t.Fatalf("Free(%v, %v) = %v, %d", c, x, got, e)
		}
	}
}

// P9.3: whatever becomes of what does not matter, a trace fails exactly if it failed before.
func TestChangesDoNotCount(t *testing.T) {
	roll := sample.Dice(2)
	changes, fails := 0, 0
	for range 10000 {
		c := sample.Circuit(roll)
		x := sample.Trace(roll, c, roll(len(c.Bads)), 1+roll(6), 2+roll(2))
		was, _ := sim.Fails(c, x)
		free, e := Free(c, x)
		if is, f := sim.Fails(c, free); is != was || e != api.OK || f != api.OK {
			t.Fatalf("Free(%v, %v) = %v, %d: it fails %t, %d", c, x, free, e, is, f)
		}
		for range 4 {
			y, many := replaced(c, x, func() uint8 { return uint8(roll(3)) })
			if is, e := sim.Fails(c, y); is != was || e != api.OK {
				t.Fatalf("%v: %v fails %t, and %v fails %t, %d", c, x, was, y, is, e)
			}
			changes += many
		}
		if was {
			fails++
		}
	}
	if changes < 100000 || fails < 1000 {
		t.Errorf("only %d values were changed, only %d traces failed", changes, fails)
	}
}

// P9.3: of a trace without X, enough remains to see whether it fails.
func TestFreeIsSure(t *testing.T) {
	roll := sample.Dice(3)
	for range 10000 {
		c := sample.Circuit(roll)
		x := sample.Trace(roll, c, roll(len(c.Bads)), 1+roll(6), 2)
		was, _ := sim.Surely(c, x)
		free, _ := Free(c, x)
		if is, e := sim.Surely(c, free); is != was || is == api.X || e != api.OK {
			t.Fatalf("Free(%v, %v) = %v: it surely fails %d, %d, not %d", c, x, free, is, e, was)
		}
		if again, e := Free(c, free); !norm.SameTrace(again, free) || e != api.OK {
			t.Fatalf("Free(%v, %v) = %v, %d", c, free, again, e)
		}
	}
}

// joined adds what matters in b to a.
func joined(a, b []bool) []bool {
	l := slices.Clone(a)
	for i, is := range b {
		l[i] = l[i] || is
	}
	return l
}

// P9.3: Ever is Of, applied again to what the latches that matter are next, until nothing comes in addition.
func TestEverIsOfRepeated(t *testing.T) {
	roll := sample.Dice(4)
	for range 5000 {
		c := sample.Circuit(roll)
		lits := someLits(roll, c)
		l, _ := Of(c, lits)
		for range c.Latches {
			more, e := Of(c, judgedNexts(c, l))
			if e != api.OK {
				t.Fatalf("Of(%v, %v): %d", c, judgedNexts(c, l), e)
			}
			l = joined(l, more)
		}
		if got, e := Ever(c, lits); !slices.Equal(got, l) || e != api.OK {
			t.Fatalf("Ever(%v, %v) = %v, %d, not %v", c, lits, got, e, l)
		}
	}
}

// P9.3: what matters in the first of several frames matters according to Ever, and nothing else does in one of enough frames.
func TestFramesAreEver(t *testing.T) {
	roll := sample.Dice(5)
	for range 5000 {
		c := sample.Circuit(roll)
		bad := roll(len(c.Bads))
		ever, _ := Ever(c, append([]uint32{c.Bads[bad]}, c.Constraints...))
		all := make([]bool, 1+norm.Vars(c))
		for frames := range 1 + len(c.Latches) {
			l, e := Frames(c, bad, 1+frames)
			if e != api.OK {
				t.Fatalf("Frames(%v, %d, %d): %d", c, bad, 1+frames, e)
			}
			if !slices.Equal(joined(ever, l[0]), ever) {
				t.Fatalf("Frames(%v, %d, %d) = %v, and ever %v", c, bad, 1+frames, l, ever)
			}
			all = joined(all, l[0])
		}
		if !slices.Equal(all, ever) {
			t.Fatalf("%v, %d: in one of the frames %v, ever %v", c, bad, all, ever)
		}
	}
}

// P9.1, P9.2: arguments and their spare capacity stay as they are.
func TestChangesNoArgument(t *testing.T) {
	c, lits := sample.RoomyCircuit(sample.Full()), sample.Roomy([]uint32{18, 10, 1})
	was := sample.Told(0, "011", "01", "01", "11")
	x := sample.RoomyTrace(was)
	// A frame that is there twice is one list.
	x.Frames[1] = x.Frames[0]
	Of(c, lits)
	Ever(c, lits)
	Frames(c, 0, 4)
	free, _ := Free(c, x)
	if !sample.UntouchedCircuit(c, sample.Full()) || !sample.Untouched(lits, []uint32{18, 10, 1}) || !sample.UntouchedTrace(x, was) {
		t.Errorf("an argument was changed: %v, %v, %v", c, lits, x)
	}
	for _, l := range append(free.Frames, free.Init) {
		l = l[:cap(l)]
		for i := range l {
			l[i] = 9
		}
	}
	if !norm.SameTrace(x, was) {
		t.Errorf("a change to a result changed the argument: %v", x)
	}
}

func checkApart[T comparable](t *testing.T, what string, l [][]T, spoil T) {
	t.Helper()
	if !sample.Apart(l, spoil) {
		t.Errorf("%s: a change to a list shows in one behind it: %v", what, l)
	}
}

// P9.1, P9.2: results are new memory, list by list; what is done to one does not show in the next answer.
func TestSharesNothing(t *testing.T) {
	c := ring()
	lists := func() [][]bool {
		l, _ := Frames(c, 0, 9)
		for range 2 {
			of, _ := Of(c, []uint32{4, 11})
			ever, _ := Ever(c, []uint32{4})
			l = append(l, of, ever)
		}
		return l
	}
	want := shownAll(lists())
	checkApart(t, "lists of true", lists(), true)
	checkApart(t, "lists of false", lists(), false)
	if got := shownAll(lists()); !slices.Equal(got, want) {
		t.Errorf("after changes to results: %v, not %v", got, want)
	}
	frame := sample.Digits("1")
	x := api.Trace{Init: sample.Digits("0110"), Frames: [][]uint8{frame, frame, frame}}
	c.Constraints = []uint32{2}
	free, e := Free(c, x)
	if !norm.SameTrace(free, sample.Told(0, "011x", "1", "1", "1")) || e != api.OK {
		t.Errorf("Free = %v, %d", free, e)
	}
	checkApart(t, "Free", append([][]uint8{free.Init}, free.Frames...), 9)
	if !norm.SameTrace(x, sample.Told(0, "0110", "1", "1", "1")) {
		t.Errorf("a change to a result changed the argument: %v", x)
	}
}

// ladder has one input and as many gates as there may be, each of the two variables ahead of it: the ways down are more than can be gone one by one.
func ladder() api.Circuit {
	c := api.Circuit{Inputs: 1, Bads: []uint32{2 * api.MaxVars}}
	for v := uint32(2); v <= api.MaxVars; v++ {
		c.Gates = append(c.Gates, api.Gate{A: 2*v - 2, B: 2*v - 4})
	}
	return c
}

// row has one input and as many latches as there may be, each of which is next what the variable ahead of it is.
func row() api.Circuit {
	c := api.Circuit{Inputs: 1, Bads: []uint32{2 * api.MaxVars}}
	for v := uint32(2); v <= api.MaxVars; v++ {
		c.Latches = append(c.Latches, api.Latch{Next: 2*v - 2, Reset: api.X})
	}
	return c
}

func howMany(l []bool) int {
	n := 0
	for _, is := range l {
		if is {
			n++
		}
	}
	return n
}

// P9.1, P9.2: as many gates as there may be, in as many frames.
func TestMostGates(t *testing.T) {
	c := ladder()
	for _, call := range []func(api.Circuit, []uint32) ([]bool, api.Errno){Of, Ever} {
		if l, e := call(c, c.Bads); len(l) != 1+api.MaxVars || howMany(l) != api.MaxVars || l[0] || e != api.OK {
			t.Errorf("%d of %d variables matter, %d", howMany(l), len(l), e)
		}
		if l, e := call(c, []uint32{2001}); len(l) != 1+api.MaxVars || howMany(l) != 1000 || l[1001] || e != api.OK {
			t.Errorf("%d of %d variables matter, %d", howMany(l), len(l), e)
		}
		if l, e := call(c, []uint32{2*api.MaxVars + 2}); len(l) > 0 || e != api.ErrArg {
			t.Errorf("%d variables, %d", len(l), e)
		}
	}
	// Each frame has constraints of its own: all of it matters in each.
	c.Constraints = c.Bads
	l, e := Frames(c, 0, api.MaxFrames)
	if len(l) != api.MaxFrames || e != api.OK {
		t.Fatalf("Frames: %d, %d", len(l), e)
	}
	for f := range l {
		if len(l[f]) != 1+api.MaxVars || howMany(l[f]) != api.MaxVars || l[f][0] {
			t.Fatalf("frame %d: %d of %d variables matter", f, howMany(l[f]), len(l[f]))
		}
	}
}

// P9.1, P9.2: as many latches as there may be, one behind the other, in as many frames.
func TestMostLatches(t *testing.T) {
	c := row()
	if l, e := Of(c, c.Bads); len(l) != 1+api.MaxVars || howMany(l) != 1 || !l[api.MaxVars] || e != api.OK {
		t.Errorf("Of: %d, %d", howMany(l), e)
	}
	if l, e := Ever(c, c.Bads); len(l) != 1+api.MaxVars || howMany(l) != api.MaxVars || l[0] || e != api.OK {
		t.Errorf("Ever: %d, %d", howMany(l), e)
	}
	l, e := Frames(c, 0, api.MaxFrames)
	if len(l) != api.MaxFrames || e != api.OK {
		t.Fatalf("Frames: %d, %d", len(l), e)
	}
	for f := range l {
		if v := api.MaxVars - (api.MaxFrames - 1 - f); howMany(l[f]) != 1 || !l[f][v] {
			t.Fatalf("frame %d: %d variables matter", f, howMany(l[f]))
		}
	}
	x := api.Trace{Init: make([]uint8, api.MaxVars-1), Frames: slices.Repeat(sample.Frames("1"), api.MaxFrames)}
	x.Init[api.MaxVars-api.MaxFrames-1] = 1
	want := api.Trace{Init: slices.Repeat([]uint8{api.X}, api.MaxVars-1), Frames: slices.Repeat(sample.Frames("x"), api.MaxFrames)}
	want.Init[api.MaxVars-api.MaxFrames-1] = 1
	if got, e := Free(c, x); !norm.SameTrace(got, want) || e != api.OK {
		t.Errorf("Free: %d", e)
	}
}

// P9.1: more literals than there are, over and over.
func TestManyLits(t *testing.T) {
	lits := slices.Repeat([]uint32{0, 6, 1, 13}, 1<<18)
	if l, e := Of(sample.Full(), lits); shown(l) != "0111001000" || e != api.OK {
		t.Errorf("Of = %v, %d", l, e)
	}
	if l, e := Ever(sample.Full(), lits); shown(l) != "0111001000" || e != api.OK {
		t.Errorf("Ever = %v, %d", l, e)
	}
	if l, e := Of(sample.Full(), append(lits, 20)); len(l) > 0 || e != api.ErrArg {
		t.Errorf("Of = %v, %d", l, e)
	}
}

// The chapter's example; DOC.md, examples 2 and 4 of the whole, as far as they are of this layer.
func TestExamples(t *testing.T) {
	c := api.Circuit{Inputs: 2, Latches: []api.Latch{{Next: 8}}, Gates: []api.Gate{{A: 6, B: 2}}, Bads: []uint32{6}}
	checkLists(t, "Of", Of, []question{{"the latch", c, []uint32{6}, "00010"}})
	checkLists(t, "Ever", Ever, []question{{"the latch", c, []uint32{6}, "01011"}})
	if l, e := Frames(c, 0, 2); !slices.Equal(shownAll(l), []string{"01011", "00010"}) || e != api.OK {
		t.Errorf("Frames = %v, %d", shownAll(l), e)
	}
	wire := api.Circuit{Inputs: 1, Latches: []api.Latch{{Next: 2}}, Bads: []uint32{4}}
	if got, e := Free(wire, sample.Told(0, "0", "1", "1")); !norm.SameTrace(got, sample.Told(0, "0", "1", "x")) || e != api.OK {
		t.Errorf("Free = %v, %d", got, e)
	}
	wire.Inputs, wire.Latches[0].Next, wire.Bads[0] = 2, 4, 6
	if got, e := Free(wire, sample.Told(0, "0", "11", "00")); !norm.SameTrace(got, sample.Told(0, "0", "x1", "xx")) || e != api.OK {
		t.Errorf("Free = %v, %d", got, e)
	}
}
