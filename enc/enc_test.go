package enc

import (
	"math"
	"slices"
	"testing"

	"inquest/api"
	"inquest/clause"
	"inquest/norm"
	"inquest/sample"
	"inquest/sat"
	"inquest/sim"
)

var (
	lits    = sample.Lits
	clauses = sample.Clauses
	told    = sample.Told
)

// judgedSpot answers the clause variable of a variable other than 0, straight from the chapter's words.
func judgedSpot(c api.Circuit, v, f int) int {
	vars := c.Inputs + len(c.Latches) + len(c.Gates)
	return 1 + f*vars + v
}

func judgedLit(c api.Circuit, lit uint32, f int) int {
	switch {
	case lit == 0:
		return -1
	case lit == 1:
		return 1
	case lit%2 == 1:
		return -judgedSpot(c, int(lit/2), f)
	}
	return judgedSpot(c, int(lit/2), f)
}

// judgedRelaxed answers the clauses, those of gates with their switches.
func judgedRelaxed(c api.Circuit, frames int) (l [][]int, first int) {
	latch, gate := 1+c.Inputs, 1+c.Inputs+len(c.Latches)
	first = judgedSpot(c, gate+len(c.Gates)-1, frames-1) + 1
	l = append(l, []int{1})
	for f := range frames {
		for i, x := range c.Latches {
			n := judgedSpot(c, latch+i, f)
			switch {
			case f > 0:
				next := judgedLit(c, x.Next, f-1)
				l = append(l, []int{-n, next}, []int{n, -next})
			case x.Reset == 0:
				l = append(l, []int{-n})
			case x.Reset == 1:
				l = append(l, []int{n})
			}
		}
		for i, x := range c.Gates {
			n, a, b := judgedSpot(c, gate+i, f), judgedLit(c, x.A, f), judgedLit(c, x.B, f)
			l = append(l, []int{-n, a, first + i}, []int{-n, b, first + i}, []int{n, -a, -b, first + i})
		}
	}
	return l, first
}

// judgedClauses are the relaxed ones without the switches.
func judgedClauses(c api.Circuit, frames int) [][]int {
	l, first := judgedRelaxed(c, frames)
	for i, x := range l {
		if last := len(x) - 1; x[last] >= first {
			l[i] = x[:last]
		}
	}
	return l
}

func judgedFails(c api.Circuit, bad, frames int) (l []int) {
	for f := range frames {
		for _, lit := range c.Constraints {
			l = append(l, judgedLit(c, lit, f))
		}
	}
	return append(l, judgedLit(c, c.Bads[bad], frames-1))
}

func judgedGiven(c api.Circuit, t api.Trace) (l []int) {
	add := func(v, f int, value uint8) {
		if value < 2 {
			// An odd literal is the one that is 1 where the variable is 0.
			l = append(l, judgedLit(c, uint32(2*v)+1-uint32(value), f))
		}
	}
	for i, x := range c.Latches {
		if x.Reset == 2 {
			add(1+c.Inputs+i, 0, t.Init[i])
		}
	}
	for f := range t.Frames {
		for i, value := range t.Frames[f] {
			add(1+i, f, value)
		}
	}
	return l
}

// modelOf answers the model that has the values of a run.
func modelOf(run [][]uint8) []bool {
	l := []bool{false, true}
	for _, vars := range run {
		for _, value := range vars[1:] {
			l = append(l, value == 1)
		}
	}
	return l
}

func same(a, b [][]int) bool { return slices.EqualFunc(a, b, slices.Equal) }

// constants has one input, latches 2 to 4, gates 5 to 7: of what is always 0, always 1, itself, twice one, and one and its opposite.
func constants() api.Circuit {
	return api.Circuit{
		Inputs:  1,
		Latches: []api.Latch{{Next: 0}, {Next: 1, Reset: api.X}, {Next: 9, Reset: 1}},
		Gates:   []api.Gate{{A: 1, B: 0}, {A: 3, B: 3}, {A: 3, B: 2}},
		Bads:    []uint32{1, 0},
	}
}

// P14.1: Vars.
func TestVars(t *testing.T) {
	for _, c := range []struct {
		c            api.Circuit
		frames, want int
	}{
		{sample.Full(), 1, 10},
		{sample.Full(), 2, 19},
		{sample.Full(), 7, 64},
		{sample.Full(), api.MaxFrames, 1 + 9*256},
		{constants(), 3, 22},
		{api.Circuit{Inputs: 3}, 5, 16},
		{api.Circuit{}, 1, 1},
		{api.Circuit{}, api.MaxFrames, 1},
		{api.Circuit{Inputs: api.MaxVars}, 1, 16385},
		{api.Circuit{Inputs: api.MaxVars}, api.MaxFrames, 1<<22 + 1},
		{sample.Much(3), api.MaxFrames, 1 + 1635*256},
	} {
		if n, e := Vars(c.c, c.frames); n != c.want || e != api.OK {
			t.Errorf("Vars(%v, %d) = %d, %d, not %d", c.c, c.frames, n, e, c.want)
		}
	}
}

// P14.1: Lit.
func TestLit(t *testing.T) {
	for _, c := range []struct {
		c     api.Circuit
		lit   uint32
		frame int
		want  int
	}{
		{sample.Full(), 0, 0, -1},
		{sample.Full(), 1, 0, 1},
		{sample.Full(), 0, 9, -1},
		{sample.Full(), 1, api.MaxFrames - 1, 1},
		{sample.Full(), 2, 0, 2},
		{sample.Full(), 3, 0, -2},
		{sample.Full(), 18, 0, 10},
		{sample.Full(), 19, 0, -10},
		{sample.Full(), 2, 1, 11},
		{sample.Full(), 3, 2, -20},
		{sample.Full(), 12, 3, 34},
		{sample.Full(), 19, api.MaxFrames - 1, -(1 + 9*256)},
		{api.Circuit{}, 0, 0, -1},
		{api.Circuit{}, 1, api.MaxFrames - 1, 1},
		{api.Circuit{Inputs: api.MaxVars}, 2 * api.MaxVars, 0, 16385},
		{api.Circuit{Inputs: api.MaxVars}, 2*api.MaxVars + 1, api.MaxFrames - 1, -1<<22 - 1},
		{sample.Much(3), 3, api.MaxFrames - 1, -(1 + 1635*255 + 1)},
	} {
		if n, e := Lit(c.c, c.lit, c.frame); n != c.want || e != api.OK {
			t.Errorf("Lit(%v, %d, %d) = %d, %d, not %d", c.c, c.lit, c.frame, n, e, c.want)
		}
	}
}

// P14.1: Clauses and Relaxed, clause by clause.
func TestClauses(t *testing.T) {
	for _, c := range []struct {
		what          string
		c             api.Circuit
		frames, first int
		want, relaxed string
	}{
		{"nothing", api.Circuit{}, 3, 2, "1;", "1;"},
		{"inputs alone", api.Circuit{Inputs: 2, Bads: []uint32{2}, Constraints: []uint32{3}}, 2, 6, "1;", "1;"},
		{"one frame", sample.Full(), 1, 11,
			"1;-4;5;-7 3;-7 2;7 -3 -2;-8 -7;-8 -6;8 7 6;-9 8;-9 1;9 -8 -1;-10 5;-10 4;10 -5 -4;",
			"1;-4;5;-7 3 11;-7 2 11;7 -3 -2 11;-8 -7 12;-8 -6 12;8 7 6 12;-9 8 13;-9 1 13;9 -8 -1 13;-10 5 14;-10 4 14;10 -5 -4 14;"},
		{"two frames", sample.Full(), 2, 20,
			"1;-4;5;-7 3;-7 2;7 -3 -2;-8 -7;-8 -6;8 7 6;-9 8;-9 1;9 -8 -1;-10 5;-10 4;10 -5 -4;" +
				"-13 7;13 -7;-14 -8;14 8;-15 -2;15 2;-16 12;-16 11;16 -12 -11;-17 -16;-17 -15;17 16 15;-18 17;-18 1;18 -17 -1;-19 14;-19 13;19 -14 -13;",
			"1;-4;5;-7 3 20;-7 2 20;7 -3 -2 20;-8 -7 21;-8 -6 21;8 7 6 21;-9 8 22;-9 1 22;9 -8 -1 22;-10 5 23;-10 4 23;10 -5 -4 23;" +
				"-13 7;13 -7;-14 -8;14 8;-15 -2;15 2;-16 12 20;-16 11 20;16 -12 -11 20;-17 -16 21;-17 -15 21;17 16 15 21;-18 17 22;-18 1 22;18 -17 -1 22;-19 14 23;-19 13 23;19 -14 -13 23;"},
		{"constants, and literals twice", constants(), 2, 16,
			"1;-3;5;-6 1;-6 -1;6 -1 1;-7 -2;-7 -2;7 2 2;-8 -2;-8 2;8 2 -2;-10 -1;10 1;-11 1;11 -1;-12 -5;12 5;-13 1;-13 -1;13 -1 1;-14 -9;-14 -9;14 9 9;-15 -9;-15 9;15 9 -9;",
			"1;-3;5;-6 1 16;-6 -1 16;6 -1 1 16;-7 -2 17;-7 -2 17;7 2 2 17;-8 -2 18;-8 2 18;8 2 -2 18;-10 -1;10 1;-11 1;11 -1;-12 -5;12 5;-13 1 16;-13 -1 16;13 -1 1 16;-14 -9 17;-14 -9 17;14 9 9 17;-15 -9 18;-15 9 18;15 9 -9 18;"},
		{"latches alone", api.Circuit{Latches: []api.Latch{{Next: 2, Reset: api.X}, {Next: 3, Reset: 1}}}, 3, 8,
			"1;3;-4 2;4 -2;-5 -2;5 2;-6 4;6 -4;-7 -4;7 4;",
			"1;3;-4 2;4 -2;-5 -2;5 2;-6 4;6 -4;-7 -4;7 4;"},
	} {
		if l, e := Clauses(c.c, c.frames); !same(l, clauses(c.want)) || e != api.OK {
			t.Errorf("%s: Clauses = %v, %d, not %v", c.what, l, e, c.want)
		}
		if l, first, e := Relaxed(c.c, c.frames); !same(l, clauses(c.relaxed)) || first != c.first || e != api.OK {
			t.Errorf("%s: Relaxed = %v, %d, %d, not %v, %d", c.what, l, first, e, c.relaxed, c.first)
		}
	}
}

// P14.2: Fails.
func TestFails(t *testing.T) {
	lax := sample.Full()
	lax.Constraints = nil
	for _, c := range []struct {
		what        string
		c           api.Circuit
		bad, frames int
		want        string
	}{
		{"one frame", sample.Full(), 0, 1, "1 -7 10"},
		{"the next bad literal", sample.Full(), 1, 1, "1 -7 -9"},
		{"the last bad literal", sample.Full(), 2, 2, "1 -7 1 -16 15"},
		{"three frames", sample.Full(), 0, 3, "1 -7 1 -16 1 -25 28"},
		{"no constraint", lax, 0, 3, "28"},
		{"always bad", constants(), 0, 4, "1"},
		{"never bad", constants(), 1, 4, "-1"},
		{"a literal twice", api.Circuit{Inputs: 1, Bads: []uint32{2}, Constraints: []uint32{2, 0, 2}}, 0, 2, "2 -1 2 3 -1 3 3"},
		{"no variable", api.Circuit{Bads: []uint32{0}, Constraints: []uint32{1}}, 0, 2, "1 1 -1"},
	} {
		if l, e := Fails(c.c, c.bad, c.frames); !slices.Equal(l, lits(c.want)) || e != api.OK {
			t.Errorf("%s: Fails = %v, %d, not %s", c.what, l, e, c.want)
		}
	}
}

// P14.2: Given.
func TestGiven(t *testing.T) {
	free := api.Circuit{Inputs: 1, Latches: []api.Latch{{Next: 0, Reset: api.X}, {Next: 0, Reset: 1}, {Next: 0, Reset: api.X}}, Bads: []uint32{0, 0}}
	for _, c := range []struct {
		what string
		c    api.Circuit
		t    api.Trace
		want string
	}{
		{"one frame", sample.Full(), told(0, "011", "01"), "6 -2 3"},
		{"a free latch that is 0", sample.Full(), told(0, "010", "11"), "-6 2 3"},
		{"a free latch that is X", sample.Full(), told(0, "01x", "00"), "-2 -3"},
		{"frame by frame", sample.Full(), told(2, "011", "01", "x0", "11"), "6 -2 3 -12 20 21"},
		{"X throughout", sample.Full(), told(1, "01x", "xx", "xx"), ""},
		{"free latches ahead of inputs", free, told(1, "011", "1", "0"), "-3 5 2 -6"},
		{"some free latches", free, told(0, "x10", "x", "1", "0"), "-5 6 -10"},
		{"no variable", api.Circuit{Bads: []uint32{1}}, told(0, "", "", ""), ""},
		{"no constraint is asked", api.Circuit{Inputs: 1, Bads: []uint32{0}, Constraints: []uint32{0}}, told(0, "", "1"), "2"},
	} {
		if l, e := Given(c.c, c.t); !slices.Equal(l, lits(c.want)) || e != api.OK {
			t.Errorf("%s: Given = %v, %d, not %s", c.what, l, e, c.want)
		}
	}
}

// P14.2: Trace.
func TestTrace(t *testing.T) {
	for _, c := range []struct {
		what        string
		c           api.Circuit
		bad, frames int
		model       string
		want        api.Trace
	}{
		{"one frame", sample.Full(), 0, 1, "01 010010000", told(0, "011", "01")},
		{"what latches are at first does not hang on the model", sample.Full(), 2, 1, "01 101011111", told(2, "011", "10")},
		{"two frames", sample.Full(), 1, 2, "01 000010000 100100000", told(1, "011", "00", "10")},
		{"later latches do not count", sample.Full(), 0, 3, "01 111100000 001110000 010010000", told(0, "010", "11", "00", "01")},
		{"the constant does not count", sample.Full(), 0, 1, "10 010010000", told(0, "011", "01")},
		{"switches do not count", sample.Full(), 0, 1, "01 010010000 1111", told(0, "011", "01")},
		{"a constraint that does not hold", sample.Full(), 2, 1, "01 110001000", told(2, "010", "11")},
		{"no input", api.Circuit{Latches: []api.Latch{{Next: 2, Reset: api.X}}, Bads: []uint32{2}}, 0, 3, "01 1 0 0", told(0, "1", "", "", "")},
		{"no variable", api.Circuit{Bads: []uint32{1}}, 0, 2, "01", told(0, "", "", "")},
	} {
		var model []bool
		for _, r := range c.model {
			if r != ' ' {
				model = append(model, r == '1')
			}
		}
		if x, e := Trace(c.c, c.bad, c.frames, model); !norm.SameTrace(x, c.want) || e != api.OK {
			t.Errorf("%s: Trace = %v, %d, not %v", c.what, x, e, c.want)
		}
	}
}

// refused tells of a call that ought to have answered an error, and nothing beside it.
func refused(t *testing.T, call string, nothing bool, e, want api.Errno) {
	t.Helper()
	if !nothing || e != want {
		t.Errorf("%s: nothing %t, %d, not %d", call, nothing, e, want)
	}
}

// framesRefused asks those functions that take a number of frames.
func framesRefused(t *testing.T, c api.Circuit, bad, frames int) {
	t.Helper()
	n, e := Vars(c, frames)
	refused(t, "Vars", n == 0, e, api.ErrArg)
	l, e := Clauses(c, frames)
	refused(t, "Clauses", len(l) == 0, e, api.ErrArg)
	l, n, e = Relaxed(c, frames)
	refused(t, "Relaxed", len(l) == 0 && n == 0, e, api.ErrArg)
	badRefused(t, c, bad, frames, make([]bool, 1<<16))
}

func badRefused(t *testing.T, c api.Circuit, bad, frames int, model []bool) {
	t.Helper()
	given, e := Fails(c, bad, frames)
	refused(t, "Fails", len(given) == 0, e, api.ErrArg)
	traceRefused(t, c, bad, frames, model)
}

func traceRefused(t *testing.T, c api.Circuit, bad, frames int, model []bool) {
	t.Helper()
	x, e := Trace(c, bad, frames, model)
	refused(t, "Trace", norm.SameTrace(x, api.Trace{}), e, api.ErrArg)
}

func litRefused(t *testing.T, c api.Circuit, lit uint32, frame int) {
	t.Helper()
	n, e := Lit(c, lit, frame)
	refused(t, "Lit", n == 0, e, api.ErrArg)
}

func givenRefused(t *testing.T, c api.Circuit, x api.Trace) {
	t.Helper()
	l, e := Given(c, x)
	refused(t, "Given", len(l) == 0, e, api.ErrArg)
}

// P14.1, P14.2: circuits that are not valid.
func TestWrongCircuits(t *testing.T) {
	for _, c := range sample.WrongCircuits() {
		framesRefused(t, c, 0, 1)
		framesRefused(t, c, 2, api.MaxFrames)
		framesRefused(t, c, 3, 0)
		litRefused(t, c, 0, 0)
		litRefused(t, c, 2, 1)
		givenRefused(t, c, told(0, "01x", "00"))
		givenRefused(t, c, api.Trace{})
	}
}

// P14.1, P14.2: numbers of frames that can't be, and frames that are not.
func TestWrongFrames(t *testing.T) {
	for _, n := range []int{0, -1, api.MaxFrames + 1, 1 << 16, 1<<31 + 1, 1<<32 + 1, math.MinInt, math.MaxInt} {
		framesRefused(t, sample.Full(), 0, n)
		framesRefused(t, sample.Full(), 3, n)
		framesRefused(t, api.Circuit{}, 0, n)
	}
	for _, f := range []int{-1, api.MaxFrames, 1 << 16, 1<<31 + 1, 1 << 32, math.MinInt, math.MaxInt} {
		for _, lit := range []uint32{0, 1, 2, 20} {
			litRefused(t, sample.Full(), lit, f)
			litRefused(t, api.Circuit{}, lit, f)
		}
	}
}

// P14.1: literals that do not exist.
func TestWrongLits(t *testing.T) {
	for _, lit := range []uint32{20, 21, 22, 2 * api.MaxVars, 1 << 16, 1<<31 - 1, 1 << 31, 1<<31 + 2, math.MaxUint32} {
		litRefused(t, sample.Full(), lit, 0)
		litRefused(t, sample.Full(), lit, api.MaxFrames-1)
		litRefused(t, api.Circuit{}, lit, 0)
	}
	litRefused(t, api.Circuit{}, 2, 0)
	litRefused(t, api.Circuit{}, 3, 9)
	litRefused(t, api.Circuit{Inputs: api.MaxVars}, 2*api.MaxVars+2, 0)
}

// P14.2: bad literals that do not exist.
func TestWrongBads(t *testing.T) {
	for _, bad := range []int{-1, 3, 4, api.MaxList, 1 << 31, 1 << 32, math.MinInt, math.MaxInt} {
		badRefused(t, sample.Full(), bad, 1, make([]bool, 99))
		badRefused(t, sample.Full(), bad, 0, make([]bool, 99))
		badRefused(t, sample.Full(), bad, 1, nil)
	}
	badRefused(t, api.Circuit{}, 0, 1, make([]bool, 2))
	badRefused(t, api.Circuit{Outputs: []uint32{1}, Constraints: []uint32{1}}, 0, 1, make([]bool, 2))
}

// P14.2: traces that do not fit.
func TestWrongTraces(t *testing.T) {
	for _, x := range sample.WrongTraces() {
		givenRefused(t, sample.Full(), x)
	}
	givenRefused(t, api.Circuit{}, api.Trace{})
	givenRefused(t, api.Circuit{}, told(0, "", ""))
}

// P14.2: models that are too short, and those that are just long enough.
func TestShortModels(t *testing.T) {
	for _, c := range []struct {
		c           api.Circuit
		frames, few int
	}{
		{sample.Full(), 1, 10},
		{sample.Full(), 3, 28},
		{sample.Full(), api.MaxFrames, 1 + 9*256},
		{api.Circuit{Bads: []uint32{1}}, 1, 1},
		{api.Circuit{Bads: []uint32{1}}, api.MaxFrames, 1},
	} {
		for _, few := range []int{c.few, c.few - 1, 1, 0} {
			traceRefused(t, c.c, 0, c.frames, make([]bool, few))
		}
		traceRefused(t, c.c, 0, c.frames, nil)
		for _, many := range []int{c.few + 1, c.few + 2, c.few + 1000} {
			if x, e := Trace(c.c, 0, c.frames, make([]bool, many)); len(x.Frames) != c.frames || !norm.Fits(c.c, x) || e != api.OK {
				t.Errorf("Trace(%v) = %v, %d", c, x, e)
			}
		}
	}
}

// P14.1, P14.2: as many clauses as there may be.
func TestMostClauses(t *testing.T) {
	c := sample.Much(1)
	l, e := Clauses(c, api.MaxFrames)
	if len(l) != api.MaxClauses || e != api.OK || !same(l, judgedClauses(c, api.MaxFrames)) {
		t.Errorf("Clauses: %d, %d", len(l), e)
	}
	l, first, e := Relaxed(c, api.MaxFrames)
	want, next := judgedRelaxed(c, api.MaxFrames)
	if len(l) != api.MaxClauses || first != next || e != api.OK || !same(l, want) {
		t.Errorf("Relaxed: %d, %d, %d", len(l), first, e)
	}
	if l, e := Fails(c, 0, api.MaxFrames); len(l) != 1+api.MaxFrames || e != api.OK || !slices.Equal(l, judgedFails(c, 0, api.MaxFrames)) {
		t.Errorf("Fails: %d, %d", len(l), e)
	}
}

// P14.1, P14.2: too many clauses, by one and by many.
func TestTooManyClauses(t *testing.T) {
	gates := api.Circuit{Gates: make([]api.Gate, api.MaxVars), Bads: []uint32{1}}
	latches := api.Circuit{Latches: make([]api.Latch, api.MaxVars), Bads: []uint32{1}}
	for _, c := range []struct {
		c      api.Circuit
		frames int
	}{{sample.Much(2), api.MaxFrames}, {sample.Much(3), api.MaxFrames}, {gates, 22}, {gates, api.MaxFrames}, {latches, 33}, {latches, api.MaxFrames}} {
		l, e := Clauses(c.c, c.frames)
		refused(t, "Clauses", len(l) == 0, e, api.ErrLimit)
		l, first, e := Relaxed(c.c, c.frames)
		refused(t, "Relaxed", len(l) == 0 && first == 0, e, api.ErrLimit)
		given, e := Fails(c.c, 0, c.frames)
		refused(t, "Fails", len(given) == 0, e, api.ErrLimit)
		badRefused(t, c.c, 1, c.frames, make([]bool, 1<<23))
		badRefused(t, c.c, -1, c.frames, make([]bool, 1<<23))
		framesRefused(t, c.c, 0, api.MaxFrames+1)
	}
	for _, c := range []struct {
		c      api.Circuit
		frames int
	}{{gates, 21}, {latches, 32}} {
		if l, e := Clauses(c.c, c.frames); len(l) != len(judgedClauses(c.c, c.frames)) || e != api.OK {
			t.Errorf("Clauses: %d, %d", len(l), e)
		}
		if l, e := Fails(c.c, 0, c.frames); !slices.Equal(l, []int{1}) || e != api.OK {
			t.Errorf("Fails = %v, %d", l, e)
		}
	}
}

// P14.2: Given and Trace have no limit of clauses.
func TestTracesOfMuch(t *testing.T) {
	roll := sample.Dice(9)
	for _, c := range []api.Circuit{sample.Much(300), {Inputs: 1, Latches: slices.Repeat([]api.Latch{{Next: 3, Reset: api.X}}, api.MaxVars-1), Bads: []uint32{2}}} {
		x := sample.Trace(roll, c, 0, api.MaxFrames, 2)
		l, e := Given(c, x)
		if !slices.Equal(l, judgedGiven(c, x)) || e != api.OK {
			t.Errorf("Given: %d, %d", len(l), e)
		}
		vars, _ := Vars(c, api.MaxFrames)
		model := make([]bool, 1+vars)
		for _, lit := range l {
			model[max(lit, -lit)] = lit > 0
		}
		if y, e := Trace(c, 0, api.MaxFrames, model); !norm.SameTrace(x, y) || e != api.OK {
			t.Errorf("Trace: %d frames, %d", len(y.Frames), e)
		}
	}
}

// P14.1, P14.2: the functions do what the chapter's words say, on circuits and traces of all kinds.
func TestAgainstWords(t *testing.T) {
	roll := sample.Dice(1)
	for range 5000 {
		c := sample.Circuit(roll)
		bad, frames := roll(len(c.Bads)), 1+roll(6)
		want, first := judgedRelaxed(c, frames)
		if l, n, e := Relaxed(c, frames); !same(l, want) || n != first || e != api.OK {
			t.Fatalf("Relaxed(%v, %d) = %v, %d, %d", c, frames, l, n, e)
		}
		if l, e := Clauses(c, frames); !same(l, judgedClauses(c, frames)) || e != api.OK {
			t.Fatalf("Clauses(%v, %d) = %v, %d", c, frames, l, e)
		}
		if n, e := Vars(c, frames); n != first-1 || e != api.OK {
			t.Fatalf("Vars(%v, %d) = %d, %d", c, frames, n, e)
		}
		lit, f := uint32(roll(2+2*norm.Vars(c))), roll(api.MaxFrames)
		if n, e := Lit(c, lit, f); n != judgedLit(c, lit, f) || e != api.OK {
			t.Fatalf("Lit(%v, %d, %d) = %d, %d", c, lit, f, n, e)
		}
		if l, e := Fails(c, bad, frames); !slices.Equal(l, judgedFails(c, bad, frames)) || e != api.OK {
			t.Fatalf("Fails(%v, %d, %d) = %v, %d", c, bad, frames, l, e)
		}
		x := sample.Trace(roll, c, bad, frames, 2+roll(2))
		if l, e := Given(c, x); !slices.Equal(l, judgedGiven(c, x)) || e != api.OK {
			t.Fatalf("Given(%v, %v) = %v, %d", c, x, l, e)
		}
	}
}

// P14.3: the run is a model of the clauses, and each of its values follows from what is given: there is no other model.
func TestOnlyTheRun(t *testing.T) {
	roll := sample.Dice(2)
	for range 5000 {
		c := sample.Circuit(roll)
		x := sample.Trace(roll, c, roll(len(c.Bads)), 1+roll(6), 2)
		frames := len(x.Frames)
		run, _ := sim.Run(c, x)
		model := modelOf(run)
		l, _ := Clauses(c, frames)
		given, _ := Given(c, x)
		if !clause.Holds(l, model) {
			t.Fatalf("%v, %v: the run is no model of %v", c, x, l)
		}
		vars, _ := Vars(c, frames)
		must, ok := clause.Must(l, given, vars)
		if !ok || len(must) != vars {
			t.Fatalf("%v, %v: what follows of %v: %v, %t", c, x, l, must, ok)
		}
		for _, lit := range must {
			if model[max(lit, -lit)] != (lit > 0) {
				t.Fatalf("%v, %v: %d follows, and is not so in the run", c, x, lit)
			}
		}
		if y, e := Trace(c, x.Bad, frames, model); !norm.SameTrace(x, y) || e != api.OK {
			t.Fatalf("Trace(%v, %v) = %v, %d", c, model, y, e)
		}
	}
}

// places answers where the inputs and the free latches of a trace are.
func places(c api.Circuit, x api.Trace) []*uint8 {
	var l []*uint8
	for i, latch := range c.Latches {
		if latch.Reset == api.X {
			l = append(l, &x.Init[i])
		}
	}
	for _, frame := range x.Frames {
		for i := range frame {
			l = append(l, &frame[i])
		}
	}
	return l
}

// someFails tells whether a trace of as many frames as x fails, and changes x to each of them till one does.
func someFails(c api.Circuit, x api.Trace) bool {
	l := places(c, x)
	for bits := range 1 << len(l) {
		for i, p := range l {
			*p = uint8(bits >> i & 1)
		}
		if is, _ := sim.Fails(c, x); is {
			return true
		}
	}
	return false
}

// solved answers what a solver says of clauses under given literals.
func solved(t *testing.T, vars int, l [][]int, given []int) (api.Answer, []bool) {
	t.Helper()
	s, e := sat.New(vars)
	if e != api.OK {
		t.Fatalf("New(%d): %d", vars, e)
	}
	for _, x := range l {
		if e := s.Add(x); e != api.OK {
			t.Fatalf("Add(%v): %d", x, e)
		}
	}
	a, e := s.Solve(given, api.MaxBudget)
	if e != api.OK {
		t.Fatalf("Solve(%v): %d", given, e)
	}
	return a, s.Model()
}

// P14.3: a model of the clauses and of Fails is a trace that fails; there is one if a trace fails.
func TestModelsFail(t *testing.T) {
	roll := sample.Dice(3)
	fails, passes := 0, 0
	for fails+passes < 3000 {
		c := sample.Circuit(roll)
		bad, frames := roll(len(c.Bads)), 1+roll(4)
		x := sample.Trace(roll, c, bad, frames, 2)
		if len(places(c, x)) > 8 {
			continue
		}
		vars, _ := Vars(c, frames)
		l, _ := Clauses(c, frames)
		given, _ := Fails(c, bad, frames)
		if a, model := solved(t, vars, l, given); a == api.Yes {
			fails++
			y, e := Trace(c, bad, frames, model)
			if is, f := sim.Fails(c, y); !is || y.Bad != bad || len(y.Frames) != frames || e != api.OK || f != api.OK {
				t.Fatalf("Trace(%v, %d, %d, %v) = %v, %d: it fails %t, %d", c, bad, frames, model, y, e, is, f)
			}
			if run, _ := sim.Run(c, y); !slices.Equal(modelOf(run), model) {
				t.Fatalf("%v: a model that is no run: %v", c, model)
			}
		} else {
			passes++
			if someFails(c, x) {
				t.Fatalf("%v: %v fails, and no model has it", c, x)
			}
		}
	}
	if fails < 500 || passes < 500 {
		t.Errorf("only %d fail, only %d do not", fails, passes)
	}
}

// P14.1: a switch that is off holds its gate to what it is made of; one that is on leaves it what it may be, in each frame.
func TestSwitches(t *testing.T) {
	roll := sample.Dice(4)
	for range 500 {
		c := sample.Circuit(roll)
		frames := 1 + roll(4)
		l, first, _ := Relaxed(c, frames)
		strict, _ := Clauses(c, frames)
		vars := first - 1 + len(c.Gates)
		on := make([]bool, len(c.Gates))
		var given []int
		for i := range on {
			on[i] = roll(3) == 0
			if on[i] {
				given = append(given, first+i)
			} else {
				given = append(given, -first-i)
			}
		}
		// Some value for each gate that is free, in each frame, and for all that no gate makes.
		x := sample.Trace(roll, c, 0, frames, 2)
		fixed, _ := Given(c, x)
		given = append(given, fixed...)
		for i, free := range on {
			for f := range frames {
				if free {
					given = append(given, judgedLit(c, uint32(2*(1+c.Inputs+len(c.Latches)+i)+roll(2)), f))
				}
			}
		}
		a, model := solved(t, vars, l, given)
		if a != api.Yes {
			t.Fatalf("%v: %v under %v: %d", c, l, given, a)
		}
		if !slices.Contains(on, true) && !clause.Holds(strict, model) {
			t.Fatalf("%v: all switches are off, and %v does not hold", c, strict)
		}
		if must, ok := clause.Must(l, given, vars); !ok || len(must) != vars {
			t.Fatalf("%v: what follows of %v under %v: %v, %t", c, l, given, must, ok)
		}
	}
}

// P14.1, P14.2: arguments and their spare capacity stay as they are.
func TestChangesNoArgument(t *testing.T) {
	c, x := sample.RoomyCircuit(sample.Full()), sample.RoomyTrace(told(0, "011", "01", "x0"))
	was := slices.Repeat([]bool{true, false, true}, 9)
	model := sample.Roomy(was)
	Vars(c, 2)
	Lit(c, 9, 1)
	Clauses(c, 2)
	Relaxed(c, 2)
	Fails(c, 0, 2)
	Given(c, x)
	Trace(c, 0, 2, model)
	if !sample.UntouchedCircuit(c, sample.Full()) {
		t.Errorf("the circuit was changed: %v", c)
	}
	if !sample.UntouchedTrace(x, told(0, "011", "01", "x0")) {
		t.Errorf("the trace was changed: %v", x)
	}
	if !sample.Untouched(model, was) {
		t.Errorf("the model was changed: %v", model)
	}
}

// P14.1, P14.2: results are new memory, list by list; what is done to one does not show in the next answer.
func TestSharesNothing(t *testing.T) {
	c, x := sample.Full(), told(0, "011", "01", "x0")
	lists := func() [][]int {
		l, _ := Clauses(c, 3)
		more, _, _ := Relaxed(c, 3)
		l = append(l, more...)
		for range 2 {
			fails, _ := Fails(c, 0, 3)
			given, _ := Given(c, x)
			l = append(l, fails, given)
		}
		return l
	}
	want, spoiled := lists(), lists()
	if !sample.Apart(spoiled, 99) || !same(lists(), want) {
		t.Errorf("a change to a list shows elsewhere: %v", spoiled)
	}
	model := make([]bool, 20)
	y, _ := Trace(c, 0, 2, model)
	if !sample.Apart(append([][]uint8{y.Init}, y.Frames...), 9) || !sample.Untouched(model, make([]bool, 20)) {
		t.Errorf("a change to a trace shows elsewhere: %v", y)
	}
	y, e := Trace(c, 0, 2, model)
	if !norm.SameTrace(y, told(0, "010", "00", "00")) || e != api.OK || !norm.Same(c, sample.Full()) {
		t.Errorf("Trace = %v, %d", y, e)
	}
}

// The chapter's example.
func TestExample(t *testing.T) {
	c := api.Circuit{Inputs: 1, Latches: []api.Latch{{Next: 3}}, Gates: []api.Gate{{A: 4, B: 2}}, Bads: []uint32{6}}
	if n, e := Vars(c, 2); n != 7 || e != api.OK {
		t.Errorf("Vars = %d, %d", n, e)
	}
	if l, e := Clauses(c, 1); !same(l, clauses("1;-3;-4 3;-4 2;4 -3 -2;")) || e != api.OK {
		t.Errorf("Clauses = %v, %d", l, e)
	}
	if n, e := Lit(c, 7, 1); n != -7 || e != api.OK {
		t.Errorf("Lit = %d, %d", n, e)
	}
	if l, e := Fails(c, 0, 2); !slices.Equal(l, []int{7}) || e != api.OK {
		t.Errorf("Fails = %v, %d", l, e)
	}
	if l, first, e := Relaxed(c, 1); first != 5 || len(l) != 5 || !slices.Equal(l[4], []int{4, -3, -2, 5}) || e != api.OK {
		t.Errorf("Relaxed = %v, %d, %d", l, first, e)
	}
}
