package norm

import (
	"math"
	"slices"
	"testing"

	"inquest/api"
	"inquest/raw"
	"inquest/sample"
)

// full has something of each kind, and each of the resets: inputs 1 and 2, latches 3 to 5, gates 6 to 8.
func full() api.Circuit {
	return api.Circuit{
		Inputs:      2,
		Latches:     []api.Latch{{Next: 12}, {Next: 15, Reset: 1}, {Next: 0, Reset: api.X}},
		Gates:       []api.Gate{{A: 4, B: 2}, {A: 13, B: 11}, {A: 14, B: 1}},
		Outputs:     []uint32{16, 3},
		Bads:        []uint32{17, 0},
		Constraints: []uint32{1, 6, 9},
	}
}

// with answers full after a change.
func with(change func(*api.Circuit)) api.Circuit {
	c := full()
	change(&c)
	return c
}

// trace fits full.
func trace() api.Trace {
	return api.Trace{Bad: 1, Init: []uint8{0, 1, api.X}, Frames: [][]uint8{{0, 1}, {api.X, 0}, {1, 1}}}
}

func traceWith(change func(*api.Trace)) api.Trace {
	t := trace()
	change(&t)
	return t
}

func repeat[T any](x T, n int) []T { return slices.Repeat([]T{x}, n) }

// widest has as much of everything as there may be.
func widest() api.Circuit {
	const lit = 2*api.MaxVars + 1
	return api.Circuit{
		Inputs:      4,
		Latches:     repeat(api.Latch{Next: lit, Reset: api.X}, 10000),
		Gates:       repeat(api.Gate{A: 2*10004 + 1, B: 2 * 10004}, api.MaxVars-10004),
		Outputs:     repeat(uint32(lit), api.MaxList),
		Bads:        repeat(uint32(lit), api.MaxList),
		Constraints: repeat(uint32(lit), api.MaxList),
	}
}

// P3.1: May and Vars; P3.2: Raw of what is not valid.
func TestMay(t *testing.T) {
	const all = api.MaxVars
	for _, c := range []struct {
		what string
		c    api.Circuit
		want bool
	}{
		{"zero", api.Circuit{}, true},
		{"full", full(), true},
		{"widest", widest(), true},
		{"empty lists", api.Circuit{Latches: []api.Latch{}, Gates: []api.Gate{}, Bads: []uint32{}}, true},
		// The number of variables.
		{"negative Inputs", api.Circuit{Inputs: -1}, false},
		{"negative Inputs beside gates", api.Circuit{Inputs: -1, Gates: make([]api.Gate, 2)}, false},
		{"the least Inputs", api.Circuit{Inputs: math.MinInt}, false},
		{"inputs at the limit", api.Circuit{Inputs: all}, true},
		{"inputs above the limit", api.Circuit{Inputs: all + 1}, false},
		{"the greatest Inputs", api.Circuit{Inputs: math.MaxInt}, false},
		{"inputs whose sum overflows", api.Circuit{Inputs: math.MaxInt, Latches: make([]api.Latch, 1), Gates: make([]api.Gate, 1)}, false},
		{"inputs that are few in 32 bits", api.Circuit{Inputs: 1<<32 + 1}, false},
		{"latches at the limit", api.Circuit{Latches: make([]api.Latch, all)}, true},
		{"latches above the limit", api.Circuit{Latches: make([]api.Latch, all+1)}, false},
		{"gates at the limit", api.Circuit{Gates: make([]api.Gate, all)}, true},
		{"gates above the limit", api.Circuit{Gates: make([]api.Gate, all+1)}, false},
		{"all kinds at the limit", api.Circuit{Inputs: all - 3, Latches: make([]api.Latch, 2), Gates: make([]api.Gate, 1)}, true},
		{"all kinds above the limit", api.Circuit{Inputs: all - 2, Latches: make([]api.Latch, 2), Gates: make([]api.Gate, 1)}, false},
		// Latches.
		{"Next is the last variable", with(func(c *api.Circuit) { c.Latches[1].Next = 17 }), true},
		{"Next is no variable", with(func(c *api.Circuit) { c.Latches[1].Next = 18 }), false},
		{"Next is the greatest literal", with(func(c *api.Circuit) { c.Latches[1].Next = math.MaxUint32 }), false},
		{"Next is 1", with(func(c *api.Circuit) { c.Latches[1].Next = 1 }), true},
		{"Reset 3", with(func(c *api.Circuit) { c.Latches[2].Reset = 3 }), false},
		{"Reset 255", with(func(c *api.Circuit) { c.Latches[0].Reset = 255 }), false},
		// Gates.
		{"A is the variable ahead", with(func(c *api.Circuit) { c.Gates[2].A = 15 }), true},
		{"A is the gate's own", with(func(c *api.Circuit) { c.Gates[2].A = 16 }), false},
		{"A is the gate's own, negated", with(func(c *api.Circuit) { c.Gates[2].A = 17 }), false},
		{"A is a gate behind", with(func(c *api.Circuit) { c.Gates[0].A = 14 }), false},
		{"A is no variable", with(func(c *api.Circuit) { c.Gates[0].A = math.MaxUint32 }), false},
		{"A is less than B", with(func(c *api.Circuit) { c.Gates[1] = api.Gate{A: 10, B: 11} }), false},
		{"A is B", with(func(c *api.Circuit) { c.Gates[1] = api.Gate{A: 11, B: 11} }), true},
		{"A is 0", with(func(c *api.Circuit) { c.Gates[1] = api.Gate{} }), true},
		{"A and B are the gate's own", with(func(c *api.Circuit) { c.Gates[1] = api.Gate{A: 14, B: 14} }), false},
		{"B is the gate's own", with(func(c *api.Circuit) { c.Gates[1] = api.Gate{A: 13, B: 14} }), false},
		{"the first gate of constants", api.Circuit{Gates: []api.Gate{{A: 1, B: 0}}}, true},
		{"the first gate of itself", api.Circuit{Gates: []api.Gate{{A: 2, B: 0}}}, false},
		// Lists.
		{"outputs at their limit", api.Circuit{Outputs: make([]uint32, api.MaxList)}, true},
		{"outputs above their limit", api.Circuit{Outputs: make([]uint32, api.MaxList+1)}, false},
		{"bads at their limit", api.Circuit{Bads: make([]uint32, api.MaxList)}, true},
		{"bads above their limit", api.Circuit{Bads: make([]uint32, api.MaxList+1)}, false},
		{"constraints at their limit", api.Circuit{Constraints: make([]uint32, api.MaxList)}, true},
		{"constraints above their limit", api.Circuit{Constraints: make([]uint32, api.MaxList+1)}, false},
		{"output of the last variable", with(func(c *api.Circuit) { c.Outputs[1] = 17 }), true},
		{"output of no variable", with(func(c *api.Circuit) { c.Outputs[1] = 18 }), false},
		{"bad of the last variable", with(func(c *api.Circuit) { c.Bads[1] = 17 }), true},
		{"bad of no variable", with(func(c *api.Circuit) { c.Bads[1] = 18 }), false},
		{"constraint of the last variable", with(func(c *api.Circuit) { c.Constraints[2] = 17 }), true},
		{"constraint of no variable", with(func(c *api.Circuit) { c.Constraints[2] = 18 }), false},
		{"constants without a variable", api.Circuit{Outputs: []uint32{0, 1}}, true},
		{"literal 2 without a variable", api.Circuit{Outputs: []uint32{2}}, false},
	} {
		vars := 0
		if c.want {
			vars = c.c.Inputs + len(c.c.Latches) + len(c.c.Gates)
		}
		if may, n := May(c.c), Vars(c.c); may != c.want || n != vars {
			t.Errorf("%s: May = %t, Vars = %d", c.what, may, n)
		}
		r, e := Raw(c.c)
		if c.want && (e != api.OK || !raw.May(r)) || !c.want && (e != api.ErrArg || !raw.Same(r, api.Raw{})) {
			t.Errorf("%s: Raw: %d", c.what, e)
		}
	}
}

// P3.1: Fits.
func TestFits(t *testing.T) {
	for _, c := range []struct {
		what string
		t    api.Trace
		want bool
	}{
		{"a trace", trace(), true},
		{"none", api.Trace{}, false},
		{"the first Bad", traceWith(func(t *api.Trace) { t.Bad = 0 }), true},
		{"Bad above", traceWith(func(t *api.Trace) { t.Bad = 2 }), false},
		{"Bad below", traceWith(func(t *api.Trace) { t.Bad = -1 }), false},
		{"the greatest Bad", traceWith(func(t *api.Trace) { t.Bad = math.MaxInt }), false},
		{"the least Bad", traceWith(func(t *api.Trace) { t.Bad = math.MinInt }), false},
		{"no Init", traceWith(func(t *api.Trace) { t.Init = nil }), false},
		{"Init too short", traceWith(func(t *api.Trace) { t.Init = t.Init[:2] }), false},
		{"Init too long", traceWith(func(t *api.Trace) { t.Init = append(t.Init, 0) }), false},
		{"Init 0 of a free latch", traceWith(func(t *api.Trace) { t.Init[2] = 0 }), true},
		{"Init 1 of a free latch", traceWith(func(t *api.Trace) { t.Init[2] = 1 }), true},
		{"Init 3 of a free latch", traceWith(func(t *api.Trace) { t.Init[2] = 3 }), false},
		{"Init 255 of a free latch", traceWith(func(t *api.Trace) { t.Init[2] = 255 }), false},
		{"Init 1 against Reset 0", traceWith(func(t *api.Trace) { t.Init[0] = 1 }), false},
		{"Init X against Reset 0", traceWith(func(t *api.Trace) { t.Init[0] = api.X }), false},
		{"Init 0 against Reset 1", traceWith(func(t *api.Trace) { t.Init[1] = 0 }), false},
		{"Init X against Reset 1", traceWith(func(t *api.Trace) { t.Init[1] = api.X }), false},
		{"no frames", traceWith(func(t *api.Trace) { t.Frames = nil }), false},
		{"empty frames", traceWith(func(t *api.Trace) { t.Frames = [][]uint8{} }), false},
		{"one frame", traceWith(func(t *api.Trace) { t.Frames = t.Frames[:1] }), true},
		{"frames at the limit", traceWith(func(t *api.Trace) { t.Frames = repeat([]uint8{0, 1}, api.MaxFrames) }), true},
		{"frames above the limit", traceWith(func(t *api.Trace) { t.Frames = repeat([]uint8{0, 1}, api.MaxFrames+1) }), false},
		{"a frame too short", traceWith(func(t *api.Trace) { t.Frames[2] = []uint8{0} }), false},
		{"a frame too long", traceWith(func(t *api.Trace) { t.Frames[0] = []uint8{0, 0, 0} }), false},
		{"a frame of nothing", traceWith(func(t *api.Trace) { t.Frames[1] = nil }), false},
		{"an input of 3", traceWith(func(t *api.Trace) { t.Frames[2][1] = 3 }), false},
		{"an input of 255", traceWith(func(t *api.Trace) { t.Frames[0][0] = 255 }), false},
	} {
		if got := Fits(full(), c.t); got != c.want {
			t.Errorf("%s: Fits = %t", c.what, got)
		}
	}
}

// P3.1: Fits of other circuits, valid or not.
func TestFitsCircuit(t *testing.T) {
	bare := api.Circuit{Bads: []uint32{1}}
	for _, c := range []struct {
		what string
		c    api.Circuit
		t    api.Trace
		want bool
	}{
		{"neither inputs nor latches", bare, api.Trace{Frames: [][]uint8{nil, {}}}, true},
		{"an input too many", bare, api.Trace{Frames: [][]uint8{{0}}}, false},
		{"a latch too many", bare, api.Trace{Init: []uint8{0}, Frames: [][]uint8{nil}}, false},
		{"no Bads", api.Circuit{}, api.Trace{Frames: [][]uint8{nil}}, false},
		{"a circuit that is not valid", with(func(c *api.Circuit) { c.Outputs[0] = 18 }), trace(), false},
		{"a wrong Reset", with(func(c *api.Circuit) { c.Latches[2].Reset = 3 }), traceWith(func(t *api.Trace) { t.Init[2] = 3 }), false},
		{"negative Inputs", api.Circuit{Inputs: -1, Bads: []uint32{1}}, api.Trace{Frames: [][]uint8{nil}}, false},
	} {
		if got := Fits(c.c, c.t); got != c.want {
			t.Errorf("%s: Fits = %t", c.what, got)
		}
	}
}

// P3.1: Same.
func TestSame(t *testing.T) {
	none := api.Circuit{Latches: []api.Latch{}, Gates: []api.Gate{}, Outputs: []uint32{}, Bads: []uint32{}, Constraints: []uint32{}}
	for _, c := range []struct{ a, b api.Circuit }{{full(), full()}, {api.Circuit{}, api.Circuit{}}, {none, api.Circuit{}}, {api.Circuit{}, none}, {api.Circuit{Inputs: -1}, api.Circuit{Inputs: -1}}} {
		if !Same(c.a, c.b) {
			t.Errorf("Same does not hold of %v and %v", c.a, c.b)
		}
	}
	for i, change := range []func(*api.Circuit){
		func(c *api.Circuit) { c.Inputs++ },
		func(c *api.Circuit) { c.Latches[2].Next++ },
		func(c *api.Circuit) { c.Latches[0].Reset++ },
		func(c *api.Circuit) { c.Latches = c.Latches[:2] },
		func(c *api.Circuit) { c.Latches = nil },
		func(c *api.Circuit) { slices.Reverse(c.Latches) },
		func(c *api.Circuit) { c.Gates[2].A++ },
		func(c *api.Circuit) { c.Gates[0].B++ },
		func(c *api.Circuit) { c.Gates = c.Gates[:2] },
		func(c *api.Circuit) { c.Outputs[1]++ },
		func(c *api.Circuit) { c.Outputs = c.Outputs[:1] },
		func(c *api.Circuit) { c.Bads[1]++ },
		func(c *api.Circuit) { c.Bads = append(c.Bads, 0) },
		func(c *api.Circuit) { c.Constraints[0]++ },
		func(c *api.Circuit) { c.Constraints = nil },
		func(c *api.Circuit) { slices.Reverse(c.Constraints) },
	} {
		if c := with(change); Same(c, full()) || Same(full(), c) {
			t.Errorf("change %d: Same holds of %v", i, c)
		}
	}
}

// P3.1: SameTrace.
func TestSameTrace(t *testing.T) {
	none := api.Trace{Init: []uint8{}, Frames: [][]uint8{}}
	hollow := func(f []uint8) api.Trace { return api.Trace{Frames: [][]uint8{f}} }
	for _, c := range []struct{ a, b api.Trace }{{trace(), trace()}, {api.Trace{}, api.Trace{}}, {none, api.Trace{}}, {api.Trace{}, none}, {hollow(nil), hollow([]uint8{})}, {hollow([]uint8{9}), hollow([]uint8{9})}} {
		if !SameTrace(c.a, c.b) {
			t.Errorf("SameTrace does not hold of %v and %v", c.a, c.b)
		}
	}
	if SameTrace(hollow(nil), api.Trace{}) || SameTrace(api.Trace{}, hollow(nil)) {
		t.Error("SameTrace takes a frame of nothing for no frame")
	}
	for i, change := range []func(*api.Trace){
		func(t *api.Trace) { t.Bad = 0 },
		func(t *api.Trace) { t.Init[2] = 0 },
		func(t *api.Trace) { t.Init = t.Init[:2] },
		func(t *api.Trace) { t.Init = nil },
		func(t *api.Trace) { t.Frames[2][1] = api.X },
		func(t *api.Trace) { t.Frames[0][0] = 1 },
		func(t *api.Trace) { t.Frames[1] = t.Frames[1][:1] },
		func(t *api.Trace) { t.Frames = t.Frames[:2] },
		func(t *api.Trace) { t.Frames = append(t.Frames, nil) },
		func(t *api.Trace) { slices.Reverse(t.Frames) },
	} {
		if x := traceWith(change); SameTrace(x, trace()) || SameTrace(trace(), x) {
			t.Errorf("change %d: SameTrace holds of %v", i, x)
		}
	}
}

// spoil overwrites a list and its spare capacity.
func spoil[T any](l []T) { clear(l[:cap(l)]) }

// spoilCircuit overwrites one of the five lists of a circuit.
func spoilCircuit(c api.Circuit, i int) {
	switch i {
	case 0:
		spoil(c.Latches)
	case 1:
		spoil(c.Gates)
	default:
		spoil([][]uint32{c.Outputs, c.Bads, c.Constraints}[i-2])
	}
}

// P3.1: Copy, of any circuit, is equal and in new memory, list by list.
func TestCopy(t *testing.T) {
	odd := api.Circuit{Inputs: math.MinInt, Latches: []api.Latch{{Next: 99, Reset: 99}}, Gates: []api.Gate{{A: 1, B: 99}}}
	for _, c := range []api.Circuit{{}, full(), widest(), odd} {
		if got := Copy(c); !Same(got, c) {
			t.Errorf("Copy(%v) = %v", c, got)
		}
	}
	for i := range 5 {
		c := full()
		got, other := Copy(c), Copy(c)
		spoilCircuit(got, i)
		if !Same(c, full()) || !Same(other, full()) {
			t.Errorf("a change to list %d of a copy: %v, %v", i, c, other)
		}
		want := full()
		spoilCircuit(want, i)
		if !Same(got, want) {
			t.Errorf("a change to list %d alone: %v", i, got)
		}
		spoilCircuit(c, i)
		if !Same(other, full()) {
			t.Errorf("a change to list %d of the argument: %v", i, other)
		}
	}
}

// P3.1: CopyTrace, of any trace, is equal and in new memory, frame by frame.
func TestCopyTrace(t *testing.T) {
	for _, x := range []api.Trace{{}, trace(), {Bad: -7, Init: []uint8{200}, Frames: [][]uint8{nil, {200}, {}}}} {
		if got := CopyTrace(x); !SameTrace(got, x) {
			t.Errorf("CopyTrace(%v) = %v", x, got)
		}
	}
	lists := func(x api.Trace) [][]uint8 { return append([][]uint8{x.Init}, x.Frames...) }
	// One array behind all the lists of the argument: the copy's lists are apart all the same.
	array := []uint8{0, 1, api.X, 0}
	joined := api.Trace{Bad: 1, Init: array[:3], Frames: [][]uint8{array[:2], array[2:], array[1:3]}}
	want := api.Trace{Bad: 1, Init: []uint8{0, 1, api.X}, Frames: [][]uint8{{0, 1}, {api.X, 0}, {1, api.X}}}
	for i := range 4 {
		got, other := CopyTrace(joined), CopyTrace(joined)
		spoil(lists(got)[i])
		changed := CopyTrace(want)
		spoil(lists(changed)[i])
		if !SameTrace(got, changed) || !SameTrace(joined, want) || !SameTrace(other, want) {
			t.Errorf("a change to list %d of a copy: %v, argument %v, another copy %v", i, got, joined, other)
		}
	}
	got := CopyTrace(joined)
	got.Frames[:cap(got.Frames)][0] = nil
	if !SameTrace(joined, want) {
		t.Errorf("a change to the frames of a copy: %v", joined)
	}
	got = CopyTrace(joined)
	joined.Frames[2] = nil
	spoil(array)
	if !SameTrace(got, want) {
		t.Errorf("a change to the argument: %v", got)
	}
}

// mixed has gates that wait for one another, in lists that are not in order, and variables that stand for nothing (1, 10).
func mixed() api.Raw {
	return api.Raw{
		Max:         10,
		Inputs:      []uint32{18, 4},
		Latches:     []api.RawLatch{{Lit: 14, Next: 6}, {Lit: 8, Next: 11, Reset: 1}, {Lit: 16, Next: 0, Reset: 16}},
		Outputs:     []uint32{13, 18, 0},
		Bads:        []uint32{6, 9},
		Constraints: []uint32{1, 17},
		Gates:       []api.RawGate{{Lit: 6, A: 12, B: 19}, {Lit: 10, A: 4, B: 18}, {Lit: 12, A: 11, B: 1}},
	}
}

// mixedOf is its circuit: 18, 4, 14, 8, 16 are 2, 4, 6, 8, 10; then the gates 10, 12, 6 are 12, 14, 16.
func mixedOf() api.Circuit {
	return api.Circuit{
		Inputs:      2,
		Latches:     []api.Latch{{Next: 16}, {Next: 13, Reset: 1}, {Next: 0, Reset: api.X}},
		Gates:       []api.Gate{{A: 4, B: 2}, {A: 13, B: 1}, {A: 14, B: 3}},
		Outputs:     []uint32{15, 2, 0},
		Bads:        []uint32{16, 9},
		Constraints: []uint32{1, 11},
	}
}

// gates answers a raw circuit of gates alone.
func gates(most uint32, l ...api.RawGate) api.Raw { return api.Raw{Max: most, Gates: l} }

// P3.2: the numbering.
func TestOf(t *testing.T) {
	for _, c := range []struct {
		what string
		r    api.Raw
		want api.Circuit
	}{
		{"nothing", api.Raw{}, api.Circuit{}},
		{"no variable is used", api.Raw{Max: 9}, api.Circuit{}},
		{"constants", api.Raw{Outputs: []uint32{0, 1}}, api.Circuit{Outputs: []uint32{0, 1}}},
		{"everything", mixed(), mixedOf()},
		{"inputs, then latches", api.Raw{Max: 3, Inputs: []uint32{6}, Latches: []api.RawLatch{{Lit: 4, Next: 7}, {Lit: 2, Next: 4}}}, api.Circuit{Inputs: 1, Latches: []api.Latch{{Next: 3}, {Next: 4}}}},
		{"resets", api.Raw{Max: 3, Latches: []api.RawLatch{{Lit: 2, Reset: 2}, {Lit: 4, Reset: 1}, {Lit: 6}}}, api.Circuit{Latches: []api.Latch{{Reset: api.X}, {Reset: 1}, {Reset: 0}}}},
		// As soon as it can be, a gate that comes early in the list is ahead of those behind it.
		{"the first that can be", gates(4, api.RawGate{Lit: 2, A: 6, B: 6}, api.RawGate{Lit: 4, A: 1, B: 1}, api.RawGate{Lit: 6, A: 1, B: 0}, api.RawGate{Lit: 8, A: 0, B: 0}),
			api.Circuit{Gates: []api.Gate{{A: 1, B: 1}, {A: 1, B: 0}, {A: 4, B: 4}, {A: 0, B: 0}}}},
		{"backwards", gates(3, api.RawGate{Lit: 2, A: 5, B: 1}, api.RawGate{Lit: 4, A: 7, B: 1}, api.RawGate{Lit: 6, A: 1, B: 0}),
			api.Circuit{Gates: []api.Gate{{A: 1, B: 0}, {A: 3, B: 1}, {A: 5, B: 1}}}},
		{"of one gate twice", gates(2, api.RawGate{Lit: 2, A: 4, B: 5}, api.RawGate{Lit: 4, A: 0, B: 1}),
			api.Circuit{Gates: []api.Gate{{A: 1, B: 0}, {A: 3, B: 2}}}},
		// The greater of the new literals is A, whichever was greater in the text.
		{"A and B change places", api.Raw{Max: 3, Inputs: []uint32{4, 2}, Gates: []api.RawGate{{Lit: 6, A: 4, B: 2}}}, api.Circuit{Inputs: 2, Gates: []api.Gate{{A: 4, B: 2}}}},
		{"A and B stay", api.Raw{Max: 3, Inputs: []uint32{4, 2}, Gates: []api.RawGate{{Lit: 6, A: 2, B: 5}}}, api.Circuit{Inputs: 2, Gates: []api.Gate{{A: 4, B: 3}}}},
		{"a literal and its negation", api.Raw{Max: 2, Inputs: []uint32{2}, Gates: []api.RawGate{{Lit: 4, A: 2, B: 3}}}, api.Circuit{Inputs: 1, Gates: []api.Gate{{A: 3, B: 2}}}},
		// A latch may be its own Next, and a Next may be a gate of the latch.
		{"cycles through latches", api.Raw{Max: 3, Latches: []api.RawLatch{{Lit: 2, Next: 3}, {Lit: 4, Next: 6}}, Gates: []api.RawGate{{Lit: 6, A: 5, B: 2}}}, api.Circuit{Latches: []api.Latch{{Next: 3}, {Next: 6}}, Gates: []api.Gate{{A: 5, B: 2}}}},
	} {
		if got, e := Of(c.r); !Same(got, c.want) || e != api.OK {
			t.Errorf("%s: Of = %v, %d", c.what, got, e)
		}
	}
}

// P3.2: the errors of Of, and which of several comes first.
func TestOfErrors(t *testing.T) {
	gate := func(lit, a, b uint32) api.RawGate { return api.RawGate{Lit: lit, A: a, B: b} }
	latch := func(lit, next uint32) api.RawLatch { return api.RawLatch{Lit: lit, Next: next} }
	for _, c := range []struct {
		what string
		r    api.Raw
		e    api.Errno
	}{
		{"Max above its limit", api.Raw{Max: api.MaxVars + 1}, api.ErrArg},
		{"the greatest Max", api.Raw{Max: math.MaxUint32}, api.ErrArg},
		{"more than Max", api.Raw{Inputs: []uint32{0}}, api.ErrArg},
		{"a literal above Max", api.Raw{Max: 1, Outputs: []uint32{4}}, api.ErrArg},
		{"a wrong Reset", api.Raw{Max: 2, Latches: []api.RawLatch{{Lit: 2, Reset: 4}}}, api.ErrArg},
		{"too many outputs", api.Raw{Outputs: make([]uint32, api.MaxList+1)}, api.ErrArg},
		{"a negated input", api.Raw{Max: 1, Inputs: []uint32{3}}, api.ErrTwice},
		{"a negated latch", api.Raw{Max: 1, Latches: []api.RawLatch{latch(3, 0)}}, api.ErrTwice},
		{"a negated free latch", api.Raw{Max: 1, Latches: []api.RawLatch{{Lit: 3, Reset: 3}}}, api.ErrTwice},
		{"a negated gate", gates(1, gate(3, 0, 0)), api.ErrTwice},
		{"input 0", api.Raw{Max: 1, Inputs: []uint32{0}}, api.ErrTwice},
		{"latch 0", api.Raw{Max: 1, Latches: []api.RawLatch{latch(0, 0)}}, api.ErrTwice},
		{"gate 0", gates(1, gate(0, 0, 0)), api.ErrTwice},
		{"input 1", api.Raw{Max: 1, Inputs: []uint32{1}}, api.ErrTwice},
		{"latch 1", api.Raw{Max: 1, Latches: []api.RawLatch{{Lit: 1, Reset: 1}}}, api.ErrTwice},
		{"gate 1", gates(1, gate(1, 1, 1)), api.ErrTwice},
		{"two inputs", api.Raw{Max: 2, Inputs: []uint32{2, 2}}, api.ErrTwice},
		{"two latches", api.Raw{Max: 2, Latches: []api.RawLatch{latch(2, 0), latch(2, 0)}}, api.ErrTwice},
		{"two gates", gates(2, gate(2, 1, 1), gate(2, 1, 1)), api.ErrTwice},
		{"an input and a latch", api.Raw{Max: 2, Inputs: []uint32{4}, Latches: []api.RawLatch{latch(4, 0)}}, api.ErrTwice},
		{"an input and a gate", api.Raw{Max: 2, Inputs: []uint32{4}, Gates: []api.RawGate{gate(4, 1, 1)}}, api.ErrTwice},
		{"a latch and a gate", api.Raw{Max: 2, Latches: []api.RawLatch{latch(4, 0)}, Gates: []api.RawGate{gate(4, 1, 1)}}, api.ErrTwice},
		{"an undefined Next", api.Raw{Max: 2, Latches: []api.RawLatch{latch(2, 5)}}, api.ErrNone},
		{"an undefined output", api.Raw{Max: 1, Outputs: []uint32{2}}, api.ErrNone},
		{"an undefined bad literal", api.Raw{Max: 1, Bads: []uint32{3}}, api.ErrNone},
		{"an undefined constraint", api.Raw{Max: 1, Constraints: []uint32{2}}, api.ErrNone},
		{"an undefined A", gates(2, gate(2, 4, 1)), api.ErrNone},
		{"an undefined B", gates(2, gate(2, 1, 5)), api.ErrNone},
		{"a gate of itself by A", gates(1, gate(2, 2, 1)), api.ErrLoop},
		{"a gate of itself by B", gates(1, gate(2, 1, 3)), api.ErrLoop},
		{"a gate of itself by both", gates(1, gate(2, 2, 3)), api.ErrLoop},
		{"two gates of each other", gates(2, gate(2, 4, 1), gate(4, 2, 1)), api.ErrLoop},
		{"a gate behind a loop", gates(2, gate(2, 4, 1), gate(4, 4, 1)), api.ErrLoop},
		{"a loop behind gates", gates(3, gate(2, 1, 1), gate(4, 2, 6), gate(6, 4, 2)), api.ErrLoop},
		// A definition that is wrong comes ahead of one that is missing, that ahead of a loop, and what is not valid ahead of all.
		{"not valid, twice, none, loop", api.Raw{Max: 3, Inputs: []uint32{2, 2}, Outputs: []uint32{8, 6}, Gates: []api.RawGate{gate(4, 4, 4)}}, api.ErrArg},
		{"twice, none, loop", api.Raw{Max: 4, Inputs: []uint32{2}, Outputs: []uint32{6}, Gates: []api.RawGate{gate(4, 4, 4), gate(4, 1, 1)}}, api.ErrTwice},
		{"none, loop", api.Raw{Max: 4, Outputs: []uint32{6}, Gates: []api.RawGate{gate(4, 4, 4)}}, api.ErrNone},
		{"loop, none", gates(4, gate(4, 4, 4), gate(2, 8, 1)), api.ErrNone},
		{"loop, twice", gates(4, gate(4, 4, 4), gate(2, 1, 1), gate(5, 1, 1)), api.ErrTwice},
	} {
		if got, e := Of(c.r); !Same(got, api.Circuit{}) || e != c.e {
			t.Errorf("%s: Of = %v, %d, not %d", c.what, got, e, c.e)
		}
	}
}

// P3.2: Raw.
func TestRaw(t *testing.T) {
	for _, c := range []struct {
		c    api.Circuit
		want api.Raw
	}{
		{api.Circuit{}, api.Raw{}},
		{api.Circuit{Outputs: []uint32{1}}, api.Raw{Outputs: []uint32{1}}},
		{full(), api.Raw{
			Max:         8,
			Inputs:      []uint32{2, 4},
			Latches:     []api.RawLatch{{Lit: 6, Next: 12}, {Lit: 8, Next: 15, Reset: 1}, {Lit: 10, Next: 0, Reset: 10}},
			Outputs:     []uint32{16, 3},
			Bads:        []uint32{17, 0},
			Constraints: []uint32{1, 6, 9},
			Gates:       []api.RawGate{{Lit: 12, A: 4, B: 2}, {Lit: 14, A: 13, B: 11}, {Lit: 16, A: 14, B: 1}},
		}},
	} {
		if r, e := Raw(c.c); !raw.Same(r, c.want) || e != api.OK {
			t.Errorf("Raw(%v) = %v, %d", c.c, r, e)
		}
	}
}

// P3.2: Of and Raw change neither their arguments nor their spare capacity, and what they answer is new memory, list by list.
func TestSharesNothing(t *testing.T) {
	r := mixed()
	r.Inputs = append(make([]uint32, 0, 99), r.Inputs...)
	r.Outputs = append(make([]uint32, 0, 99), r.Outputs...)
	r.Gates = append(make([]api.RawGate, 0, 99), r.Gates...)
	for i := range 5 {
		got, _ := Of(r)
		want := mixedOf()
		spoilCircuit(got, i)
		spoilCircuit(want, i)
		if !Same(got, want) {
			t.Errorf("Of: a change to list %d: %v", i, got)
		}
	}
	spare := !slices.Equal(r.Inputs[2:99], make([]uint32, 97)) || !slices.Equal(r.Outputs[3:99], make([]uint32, 96)) || !slices.Equal(r.Gates[3:99], make([]api.RawGate, 96))
	if !raw.Same(r, mixed()) || spare {
		t.Errorf("Of: the argument was changed: %v", r)
	}
	got, _ := Of(r)
	spoilRaw(r)
	if !Same(got, mixedOf()) {
		t.Errorf("Of: a change to the argument: %v", got)
	}
	c := full()
	x, _ := Raw(c)
	for i := range 6 {
		got, _ := Raw(c)
		changed, _ := Raw(full())
		spoilRawList(got, i)
		spoilRawList(changed, i)
		if !raw.Same(got, changed) || !Same(c, full()) {
			t.Errorf("Raw: a change to list %d: %v, argument %v", i, got, c)
		}
	}
	for i := range 5 {
		spoilCircuit(c, i)
	}
	if want, _ := Raw(full()); !raw.Same(x, want) {
		t.Errorf("Raw: a change to the argument: %v", x)
	}
}

func spoilRaw(r api.Raw) {
	for i := range 6 {
		spoilRawList(r, i)
	}
}

func spoilRawList(r api.Raw, i int) {
	switch i {
	case 0:
		spoil(r.Latches)
	case 1:
		spoil(r.Gates)
	default:
		spoil([][]uint32{r.Inputs, r.Outputs, r.Bads, r.Constraints}[i-2])
	}
}

// someRaw answers a valid raw circuit of a few variables, most of which have definitions; literals are of any variable, or, if it is tame, of those that are defined and, for gates, of those ahead of them in an order that the list does not tell.
func someRaw(roll func(int) int, tame bool) api.Raw {
	most := 1 + roll(9)
	vars := shuffled(roll, most)
	inputs := roll(most + 1)
	latches := roll(most - inputs + 1)
	defined := most
	if roll(4) == 0 {
		defined -= roll(most - inputs - latches + 1)
	}
	lit := func(among int) uint32 {
		v := 0
		if !tame {
			v = roll(most + 1)
		} else if i := roll(among + 1); i > 0 {
			v = vars[i-1]
		}
		return uint32(2*v + roll(2))
	}
	r := api.Raw{Max: uint32(most)}
	for i, v := range vars[:defined] {
		own := uint32(2 * v)
		if !tame && roll(20) == 0 {
			own = lit(most)
		}
		switch {
		case i < inputs:
			r.Inputs = append(r.Inputs, own)
		case i < inputs+latches:
			r.Latches = append(r.Latches, api.RawLatch{Lit: own, Next: lit(defined), Reset: []uint32{0, 1, own}[roll(3)]})
		default:
			r.Gates = append(r.Gates, api.RawGate{Lit: own, A: lit(i), B: lit(i)})
		}
	}
	for range roll(4) {
		r.Outputs, r.Bads, r.Constraints = append(r.Outputs, lit(defined)), append(r.Bads, lit(defined)), append(r.Constraints, lit(defined))
	}
	for i := range r.Gates {
		j := roll(i + 1)
		r.Gates[i], r.Gates[j] = r.Gates[j], r.Gates[i]
	}
	return r
}

// shuffled answers 1 to n in some order.
func shuffled(roll func(int) int, n int) []int {
	l := make([]int, n)
	for i := range l {
		j := roll(i + 1)
		l[i], l[j] = l[j], i+1
	}
	return l
}

// judge does what the chapter's words say, step by step: the first gate of the list without a number whose A and B have one gets the next.
func judge(r api.Raw) (map[uint32]uint32, api.Errno) {
	defined := map[uint32]bool{0: true}
	var own, used []uint32
	own = append(own, r.Inputs...)
	used = append(append(append(used, r.Outputs...), r.Bads...), r.Constraints...)
	for _, l := range r.Latches {
		own, used = append(own, l.Lit), append(used, l.Next)
	}
	to := map[uint32]uint32{0: 0}
	for i, lit := range own {
		to[lit/2] = uint32(i + 1)
	}
	for _, g := range r.Gates {
		own, used = append(own, g.Lit), append(used, g.A, g.B)
	}
	for _, lit := range own {
		if lit%2 == 1 || defined[lit/2] {
			return nil, api.ErrTwice
		}
		defined[lit/2] = true
	}
	for _, lit := range used {
		if !defined[lit/2] {
			return nil, api.ErrNone
		}
	}
	for len(to) < len(own)+1 {
		i := slices.IndexFunc(r.Gates, func(g api.RawGate) bool {
			_, has := to[g.Lit/2]
			_, a := to[g.A/2]
			_, b := to[g.B/2]
			return !has && a && b
		})
		if i < 0 {
			return nil, api.ErrLoop
		}
		to[r.Gates[i].Lit/2] = uint32(len(to))
	}
	return to, api.OK
}

// P3.2: raw circuits of all kinds are refused as the chapter says, or numbered as it says.
func TestOfAgainstWords(t *testing.T) {
	roll := sample.Dice(1)
	seen := map[api.Errno]int{}
	for range 20000 {
		r := someRaw(roll, roll(3) == 0)
		to, want := judge(r)
		c, e := Of(r)
		seen[e]++
		if e != want || e != api.OK && !Same(c, api.Circuit{}) {
			t.Fatalf("Of(%v) = %v, %d, not %d", r, c, e, want)
		}
		if e == api.OK && !Same(c, translated(r, to)) {
			t.Fatalf("Of(%v) = %v, not %v", r, c, translated(r, to))
		}
	}
	for _, e := range []api.Errno{api.OK, api.ErrTwice, api.ErrNone, api.ErrLoop} {
		if seen[e] < 500 {
			t.Errorf("error %d only %d times", e, seen[e])
		}
	}
}

// translated answers the circuit of r with these numbers.
func translated(r api.Raw, to map[uint32]uint32) api.Circuit {
	now := func(lit uint32) uint32 { return 2*to[lit/2] + lit%2 }
	c := api.Circuit{Inputs: len(r.Inputs), Gates: make([]api.Gate, len(r.Gates))}
	for _, l := range r.Latches {
		reset := uint8(l.Reset)
		if l.Reset > 1 {
			reset = api.X
		}
		c.Latches = append(c.Latches, api.Latch{Next: now(l.Next), Reset: reset})
	}
	for _, g := range r.Gates {
		a, b := now(g.A), now(g.B)
		c.Gates[int(to[g.Lit/2])-1-len(r.Inputs)-len(r.Latches)] = api.Gate{A: max(a, b), B: min(a, b)}
	}
	for i := range r.Outputs {
		c.Outputs, c.Bads, c.Constraints = append(c.Outputs, now(r.Outputs[i])), append(c.Bads, now(r.Bads[i])), append(c.Constraints, now(r.Constraints[i]))
	}
	return c
}

// P3.3: what Of answers is valid, and Of of Raw answers it again.
func TestBackAgain(t *testing.T) {
	roll := sample.Dice(2)
	list := []api.Circuit{{}, full(), widest(), mixedOf(), {Inputs: api.MaxVars}}
	for range 2000 {
		r := someRaw(roll, true)
		c, e := Of(r)
		if e != api.OK || !May(c) || Vars(c) != len(r.Inputs)+len(r.Latches)+len(r.Gates) {
			t.Fatalf("Of(%v) = %v, %d", r, c, e)
		}
		list = append(list, c)
	}
	for _, c := range list {
		r, e := Raw(c)
		if e != api.OK || !raw.May(r) || int(r.Max) != Vars(c) {
			t.Fatalf("Raw(%v) = %v, %d", c, r, e)
		}
		if got, e := Of(r); !Same(got, c) || e != api.OK {
			t.Errorf("Of(Raw(%v)) = %v, %d", c, got, e)
		}
	}
}

// P3.3: for all values of inputs and latches, what the circuit tells of has the values that the text's equations give.
func TestValuesAgree(t *testing.T) {
	roll := sample.Dice(3)
	for range 1000 {
		r := someRaw(roll, true)
		// Outputs tell of every gate, so that no numbering has to be known here.
		r.Outputs = nil
		for i, g := range r.Gates {
			r.Outputs = append(r.Outputs, g.Lit+uint32(i%2))
		}
		c, e := Of(r)
		if e != api.OK {
			t.Fatalf("Of(%v): %d", r, e)
		}
		free := len(r.Inputs) + len(r.Latches)
		for bits := range 1 << free {
			text, now := textValues(r, bits), circuitValues(c, bits)
			for i, lit := range r.Outputs {
				check(t, r, text, now, lit, c.Outputs[i])
			}
			for i, l := range r.Latches {
				check(t, r, text, now, l.Next, c.Latches[i].Next)
			}
			for i := range r.Bads {
				check(t, r, text, now, r.Bads[i], c.Bads[i])
				check(t, r, text, now, r.Constraints[i], c.Constraints[i])
			}
		}
	}
}

func check(t *testing.T, r api.Raw, text map[uint32]bool, now []bool, was, is uint32) {
	t.Helper()
	if (text[was/2] != (was%2 == 1)) != (now[is/2] != (is%2 == 1)) {
		t.Fatalf("%v: %d became %d, and has another value", r, was, is)
	}
}

// textValues solves the equations of a text, in whatever order they stand.
func textValues(r api.Raw, bits int) map[uint32]bool {
	v := map[uint32]bool{0: false}
	for i, lit := range r.Inputs {
		v[lit/2] = bits>>i&1 == 1
	}
	for i, l := range r.Latches {
		v[l.Lit/2] = bits>>(len(r.Inputs)+i)&1 == 1
	}
	var value func(lit uint32) bool
	value = func(lit uint32) bool {
		x, known := v[lit/2]
		if !known {
			i := slices.IndexFunc(r.Gates, func(g api.RawGate) bool { return g.Lit/2 == lit/2 })
			x = value(r.Gates[i].A) && value(r.Gates[i].B)
			v[lit/2] = x
		}
		return x != (lit%2 == 1)
	}
	for _, g := range r.Gates {
		value(g.Lit)
	}
	return v
}

func circuitValues(c api.Circuit, bits int) []bool {
	v := []bool{false}
	for i := range c.Inputs + len(c.Latches) {
		v = append(v, bits>>i&1 == 1)
	}
	for _, g := range c.Gates {
		v = append(v, v[g.A/2] != (g.A%2 == 1) && v[g.B/2] != (g.B%2 == 1))
	}
	return v
}

// P3.2: as many gates as there may be, each of which waits for the one behind it, or for one that all wait for.
func TestOfLong(t *testing.T) {
	chain := api.Raw{Max: api.MaxVars}
	var want api.Circuit
	for i := range uint32(api.MaxVars) {
		chain.Gates = append(chain.Gates, api.RawGate{Lit: 2*i + 2, A: 1, B: 2*i + 5})
		want.Gates = append(want.Gates, api.Gate{A: 2*i + 1, B: 1})
	}
	chain.Gates[api.MaxVars-1].B = 1
	if c, e := Of(chain); !Same(c, want) || e != api.OK {
		t.Errorf("a chain: Of: %d", e)
	}
	chain.Gates[api.MaxVars-1].B = 2
	if c, e := Of(chain); !Same(c, api.Circuit{}) || e != api.ErrLoop {
		t.Errorf("a ring: Of: %d", e)
	}
	const last = 2 * api.MaxVars
	fan, want := api.Raw{Max: api.MaxVars}, api.Circuit{Gates: []api.Gate{{A: 1, B: 1}}}
	for i := range uint32(api.MaxVars - 1) {
		fan.Gates = append(fan.Gates, api.RawGate{Lit: 2*i + 2, A: last, B: last + 1})
		want.Gates = append(want.Gates, api.Gate{A: 3, B: 2})
	}
	fan.Gates = append(fan.Gates, api.RawGate{Lit: last, A: 1, B: 1})
	if c, e := Of(fan); !Same(c, want) || e != api.OK {
		t.Errorf("a fan: Of: %d", e)
	}
}

// The chapter's table of examples.
func TestExamples(t *testing.T) {
	for _, c := range []struct {
		r    api.Raw
		want api.Circuit
		e    api.Errno
	}{
		{api.Raw{Max: 3, Inputs: []uint32{6}, Gates: []api.RawGate{{Lit: 2, A: 4, B: 6}, {Lit: 4, A: 7, B: 6}}}, api.Circuit{Inputs: 1, Gates: []api.Gate{{A: 3, B: 2}, {A: 4, B: 2}}}, api.OK},
		{gates(2, api.RawGate{Lit: 2, A: 4, B: 1}, api.RawGate{Lit: 4, A: 2, B: 1}), api.Circuit{}, api.ErrLoop},
		{gates(2, api.RawGate{Lit: 2, A: 4, B: 1}), api.Circuit{}, api.ErrNone},
		{api.Raw{Max: 2, Inputs: []uint32{2}, Gates: []api.RawGate{{Lit: 2, A: 1, B: 1}}}, api.Circuit{}, api.ErrTwice},
		{api.Raw{Max: 1, Inputs: []uint32{3}}, api.Circuit{}, api.ErrTwice},
		{api.Raw{Max: 1, Inputs: []uint32{0}}, api.Circuit{}, api.ErrTwice},
	} {
		if got, e := Of(c.r); !Same(got, c.want) || e != c.e {
			t.Errorf("Of(%v) = %v, %d", c.r, got, e)
		}
	}
}
