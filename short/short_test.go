package short

import (
	"math"
	"slices"
	"testing"

	"inquest/api"
	"inquest/norm"
	"inquest/sample"
	"inquest/sim"
)

var told = sample.Told

// line has an input, and as many latches that are 0 at first, each of them next the one ahead, and the first one next the input; the bad literal is the last one.
func line(latches int) api.Circuit {
	c := api.Circuit{Inputs: 1, Bads: []uint32{uint32(2 + 2*latches)}}
	for i := range latches {
		c.Latches = append(c.Latches, api.Latch{Next: uint32(2 + 2*i)})
	}
	return c
}

// full is a counter, and its bad literal is that all latches are 1: a trace that fails has at least 2^latches frames.
func full(latches int) api.Circuit {
	c := sample.Counter(latches)
	all := uint32(1)
	for i := range latches {
		latch := uint32(4 + 2*i)
		c.Gates = append(c.Gates, api.Gate{A: max(latch, all), B: min(latch, all)})
		all = uint32(2 * norm.Vars(c))
	}
	c.Bads = []uint32{all}
	return c
}

// valuesOf answers as many values, 0 or 1: those of a number's digits, the least one first.
func valuesOf(n, many int) []uint8 {
	l := make([]uint8, many)
	for i := range l {
		l[i] = uint8(n >> i & 1)
	}
	return l
}

// first answers the states in which a run can begin.
func first(c api.Circuit) [][]uint8 {
	var l [][]uint8
	for n := range 1 << len(c.Latches) {
		s := valuesOf(n, len(c.Latches))
		ok := true
		for i, latch := range c.Latches {
			ok = ok && (latch.Reset == api.X || latch.Reset == s[i])
		}
		if ok {
			l = append(l, s)
		}
	}
	return l
}

// judged answers, from the traces of one frame on, whether any of them fails, by a walk through all states and inputs.
func judged(c api.Circuit, bad, most int) []bool {
	l := make([]bool, most)
	states := first(c)
	for f := range l {
		var next [][]uint8
		known := map[string]bool{}
		for _, s := range states {
			for n := range 1 << c.Inputs {
				vars, after, _ := sim.Frame(c, s, valuesOf(n, c.Inputs))
				broken := func(lit uint32) bool { return sim.Value(vars, lit) != api.One }
				if slices.ContainsFunc(c.Constraints, broken) {
					continue
				}
				l[f] = l[f] || sim.Value(vars, c.Bads[bad]) == api.One
				if !known[string(after)] {
					known[string(after)] = true
					next = append(next, after)
				}
			}
		}
		states = next
	}
	return l
}

func isNone(t api.Trace) bool { return norm.SameTrace(t, api.Trace{}) }

// hasX tells of a trace whether a value in it is X.
func hasX(t api.Trace) bool {
	isX := func(l []uint8) bool { return slices.Contains(l, api.X) }
	return isX(t.Init) || slices.ContainsFunc(t.Frames, isX)
}

// checkTrace tells of a trace that is not one of as many frames, without X, that fails.
func checkTrace(t *testing.T, c api.Circuit, bad, frames int, x api.Trace) {
	t.Helper()
	if is, e := sim.Fails(c, x); !is || x.Bad != bad || len(x.Frames) != frames || hasX(x) || e != api.OK {
		t.Fatalf("%v, bad literal %d, %d frames: %v: it fails %t, %d", c, bad, frames, x, is, e)
	}
}

// at asks At, and tells of an error, and of a trace that should not be.
func at(t *testing.T, c api.Circuit, bad, frames, budget int) (api.Trace, api.Answer) {
	t.Helper()
	x, a, e := At(c, bad, frames, budget)
	if e != api.OK {
		t.Fatalf("At(%v, %d, %d, %d): %d", c, bad, frames, budget, e)
	}
	if a == api.Yes {
		checkTrace(t, c, bad, frames, x)
	} else if !isNone(x) {
		t.Fatalf("At(%v, %d, %d, %d) = %v, %d", c, bad, frames, budget, x, a)
	}
	return x, a
}

// find asks Find likewise, and answers how many frames were found, 0 for none.
func find(t *testing.T, c api.Circuit, bad, most, budget int) (frames int, sure bool) {
	t.Helper()
	x, found, sure, e := Find(c, bad, most, budget)
	if e != api.OK {
		t.Fatalf("Find(%v, %d, %d, %d): %d", c, bad, most, budget, e)
	}
	switch {
	case found && len(x.Frames) > most, !found && !isNone(x):
		t.Fatalf("Find(%v, %d, %d, %d) = %v, %t, %t", c, bad, most, budget, x, found, sure)
	case found:
		checkTrace(t, c, bad, len(x.Frames), x)
	}
	return len(x.Frames), sure
}

// atRefused tells of a call that did not answer an error alone.
func atRefused(t *testing.T, c api.Circuit, bad, frames, budget int, want api.Errno) {
	t.Helper()
	if x, a, e := At(c, bad, frames, budget); !isNone(x) || a != api.Open || e != want {
		t.Errorf("At(.., %d, %d, %d) = %v, %d, %d, not %d", bad, frames, budget, x, a, e, want)
	}
}

func findRefused(t *testing.T, c api.Circuit, bad, most, budget int, want api.Errno) {
	t.Helper()
	if x, found, sure, e := Find(c, bad, most, budget); !isNone(x) || found || sure || e != want {
		t.Errorf("Find(.., %d, %d, %d) = %v, %t, %t, %d, not %d", bad, most, budget, x, found, sure, e, want)
	}
}

func bothRefused(t *testing.T, c api.Circuit, bad, budget int) {
	t.Helper()
	for _, n := range []int{1, 2, api.MaxFrames} {
		atRefused(t, c, bad, n, budget, api.ErrArg)
		findRefused(t, c, bad, n, budget, api.ErrArg)
	}
	findRefused(t, c, bad, 0, budget, api.ErrArg)
}

// P16.1: the answer for a number of frames, and a trace where only one fails.
func TestAt(t *testing.T) {
	for _, c := range []struct {
		what        string
		c           api.Circuit
		bad, frames int
		want        api.Answer
		only        api.Trace
	}{
		{"an input", api.Circuit{Inputs: 1, Bads: []uint32{2}}, 0, 1, api.Yes, told(0, "", "1")},
		{"the negation of one", api.Circuit{Inputs: 1, Bads: []uint32{3}}, 0, 1, api.Yes, told(0, "", "0")},
		{"always bad", api.Circuit{Bads: []uint32{1}}, 0, 3, api.Yes, told(0, "", "", "", "")},
		{"never bad", api.Circuit{Bads: []uint32{1, 0}}, 1, 3, api.No, api.Trace{}},
		{"as many frames as there may be", api.Circuit{Bads: []uint32{1}}, 0, api.MaxFrames, api.Yes, api.Trace{Frames: make([][]uint8, api.MaxFrames)}},
		{"a latch at first", api.Circuit{Latches: []api.Latch{{Next: 0, Reset: 1}}, Bads: []uint32{2}}, 0, 1, api.Yes, told(0, "1", "")},
		{"a latch that is something else next", api.Circuit{Latches: []api.Latch{{Next: 0, Reset: 1}}, Bads: []uint32{2}}, 0, 2, api.No, api.Trace{}},
		{"a free latch", api.Circuit{Latches: []api.Latch{{Next: 3, Reset: api.X}}, Bads: []uint32{2, 3}}, 1, 2, api.Yes, told(1, "1", "", "")},
		{"a free latch that stays", api.Circuit{Latches: []api.Latch{{Next: 2, Reset: api.X}}, Bads: []uint32{3}}, 0, 3, api.Yes, told(0, "0", "", "", "")},
		{"too few frames", line(3), 0, 3, api.No, api.Trace{}},
		{"just enough", line(3), 0, 4, api.Yes, api.Trace{}},
		{"a counter, too soon", full(2), 0, 3, api.No, api.Trace{}},
		{"a counter", full(2), 0, 4, api.Yes, api.Trace{}},
		{"a constraint in the last frame", api.Circuit{Inputs: 2, Bads: []uint32{2}, Constraints: []uint32{5}}, 0, 1, api.Yes, told(0, "", "10")},
		{"a constraint that denies it", api.Circuit{Inputs: 1, Bads: []uint32{2}, Constraints: []uint32{3}}, 0, 2, api.No, api.Trace{}},
		{"a constraint in each frame", api.Circuit{Inputs: 1, Bads: []uint32{1}, Constraints: []uint32{2}}, 0, 3, api.Yes, told(0, "", "1", "1", "1")},
		{"a constraint that breaks later", api.Circuit{Latches: []api.Latch{{Next: 1}}, Bads: []uint32{1}, Constraints: []uint32{3}}, 0, 2, api.No, api.Trace{}},
		{"constraints that contradict", api.Circuit{Inputs: 1, Bads: []uint32{1}, Constraints: []uint32{2, 3}}, 0, 1, api.No, api.Trace{}},
		{"a constraint that never holds", api.Circuit{Bads: []uint32{1}, Constraints: []uint32{1, 0}}, 0, 1, api.No, api.Trace{}},
		{"outputs do not count", api.Circuit{Outputs: []uint32{0}, Bads: []uint32{1}}, 0, 1, api.Yes, told(0, "", "")},
		{"one bad literal does not count for another", api.Circuit{Inputs: 1, Bads: []uint32{2, 3, 0}}, 1, 1, api.Yes, told(1, "", "0")},
	} {
		x, a := at(t, c.c, c.bad, c.frames, 100)
		if a != c.want || !isNone(c.only) && !norm.SameTrace(x, c.only) {
			t.Errorf("%s: At = %v, %d, not %v, %d", c.what, x, a, c.only, c.want)
		}
	}
}

// P16.1, P16.2: circuits that are not valid.
func TestWrongCircuits(t *testing.T) {
	for _, c := range sample.WrongCircuits() {
		bothRefused(t, c, 0, 100)
		bothRefused(t, c, 2, 0)
		bothRefused(t, c, 3, -1)
	}
}

// P16.1, P16.2: bad literals that do not exist, and budgets that can't be; those that just can.
func TestWrongArguments(t *testing.T) {
	for _, bad := range []int{-1, 3, 4, api.MaxList, 1 << 31, 1 << 32, math.MinInt, math.MaxInt} {
		bothRefused(t, sample.Full(), bad, 100)
		bothRefused(t, sample.Full(), bad, api.MaxBudget+1)
	}
	bothRefused(t, api.Circuit{}, 0, 100)
	bothRefused(t, api.Circuit{Outputs: []uint32{1}, Constraints: []uint32{1}}, 0, 100)
	for _, budget := range []int{-1, api.MaxBudget + 1, 1 << 31, 1 << 32, 1<<32 + 1, math.MinInt, math.MaxInt} {
		bothRefused(t, sample.Full(), 0, budget)
		bothRefused(t, api.Circuit{Bads: []uint32{0}}, 0, budget)
	}
	for _, budget := range []int{0, api.MaxBudget} {
		if _, a := at(t, line(1), 0, 2, budget); a != api.Yes {
			t.Errorf("At with the budget %d: %d", budget, a)
		}
		if n, sure := find(t, line(1), 0, 2, budget); n != 2 || !sure {
			t.Errorf("Find with the budget %d: %d frames, %t", budget, n, sure)
		}
	}
}

// P16.1, P16.2: numbers of frames that can't be.
func TestWrongFrames(t *testing.T) {
	for _, c := range []api.Circuit{sample.Full(), {Bads: []uint32{1}}} {
		for _, n := range []int{-1, api.MaxFrames + 1, 1 << 16, 1<<31 + 1, 1 << 32, 1<<32 + 1, math.MinInt, math.MaxInt} {
			atRefused(t, c, 0, n, 100, api.ErrArg)
			findRefused(t, c, 0, n, 100, api.ErrArg)
			atRefused(t, c, 0, n, -1, api.ErrArg)
			findRefused(t, c, 3, n, -1, api.ErrArg)
		}
		atRefused(t, c, 0, 0, 100, api.ErrArg)
	}
}

// P16.2: of no numbers of frames, none is open.
func TestFindOfNone(t *testing.T) {
	gates := api.Circuit{Gates: make([]api.Gate, api.MaxVars), Bads: []uint32{1}}
	for _, c := range []api.Circuit{{Bads: []uint32{1}}, sample.Full(), gates} {
		if n, sure := find(t, c, 0, 0, 0); n != 0 || !sure {
			t.Errorf("Find: %d frames, %t", n, sure)
		}
	}
}

// P16.1: as many clauses as there may be, those of the failure among them, and one more.
func TestMostClauses(t *testing.T) {
	free := func(resets int) api.Circuit {
		c := sample.Much(resets)
		c.Constraints = nil
		return c
	}
	constrained := func(resets int) api.Circuit {
		c := sample.Much(resets)
		c.Gates = c.Gates[1:]
		return c
	}
	// A gate has three clauses in each frame, a constraint one.
	const gate, constraint = 3 * api.MaxFrames, api.MaxFrames
	for _, c := range []struct {
		what string
		c    api.Circuit
		want api.Answer
		e    api.Errno
	}{
		{"all that there may be", free(0), api.Yes, api.OK},
		{"the bad literal is one too many", free(1), api.Open, api.ErrLimit},
		{"the circuit has one too many", free(2), api.Open, api.ErrLimit},
		{"all that there may be, with a constraint", constrained(gate - constraint), api.No, api.OK},
		{"one too many with the constraint", constrained(gate - constraint + 1), api.Open, api.ErrLimit},
		{"the constraint is too many", sample.Much(0), api.Open, api.ErrLimit},
	} {
		x, a, e := At(c.c, 0, api.MaxFrames, 100)
		if a != c.want || isNone(x) != (a != api.Yes) || e != c.e {
			t.Errorf("%s: At: %d frames, %d, %d, not %d, %d", c.what, len(x.Frames), a, e, c.want, c.e)
		}
		atRefused(t, c.c, 1, api.MaxFrames, 100, api.ErrArg)
		atRefused(t, c.c, 0, api.MaxFrames, -1, api.ErrArg)
		atRefused(t, c.c, 0, api.MaxFrames+1, 100, api.ErrArg)
	}
}

// P16.1: as many variables as there may be, and more: a circuit without clauses can have too many.
func TestMostVariables(t *testing.T) {
	wide := func(inputs int) api.Circuit {
		return api.Circuit{Inputs: inputs, Bads: []uint32{0, uint32(2 * inputs)}}
	}
	atRefused(t, wide(api.MaxVars), 0, api.MaxFrames, 100, api.ErrLimit)
	atRefused(t, wide(api.MaxVars), 1, api.MaxFrames, 100, api.ErrLimit)
	atRefused(t, wide(api.MaxVars), 2, api.MaxFrames, 100, api.ErrArg)
	atRefused(t, wide(api.MaxVars), 0, api.MaxFrames, -1, api.ErrArg)
	if _, a := at(t, wide(api.MaxVars), 0, api.MaxFrames-1, 100); a != api.No {
		t.Errorf("At: %d", a)
	}
	if _, a := at(t, wide(api.MaxVars-1), 1, api.MaxFrames, 100); a != api.Yes {
		t.Errorf("At: %d", a)
	}
}

// P16.1: more literals of the failure than can be given to a solver.
func TestManyConstraints(t *testing.T) {
	c := line(4)
	c.Constraints = slices.Repeat([]uint32{1}, api.MaxList)
	for frames, want := range map[int]api.Answer{1: api.No, 4: api.No, 5: api.Yes, 9: api.Yes} {
		if _, a := at(t, c, 0, frames, 100); a != want {
			t.Errorf("At(.., %d): %d", frames, a)
		}
	}
	c.Constraints[api.MaxList-1] = 2
	c.Bads = append(c.Bads, 5)
	for frames := range 9 {
		want := api.No
		if frames == 0 {
			want = api.Yes
		}
		if _, a := at(t, c, 1, 1+frames, 100); a != want {
			t.Errorf("At(.., %d): %d", 1+frames, a)
		}
	}
}

// P16.2: what is found first; where each question is answered, it is sure.
func TestFind(t *testing.T) {
	late := line(6)
	late.Constraints = []uint32{5}
	for _, c := range []struct {
		what            string
		c               api.Circuit
		bad, most, want int
	}{
		{"an input", api.Circuit{Inputs: 1, Bads: []uint32{2}}, 0, 1, 1},
		{"always bad", api.Circuit{Bads: []uint32{1}}, 0, api.MaxFrames, 1},
		{"never bad", api.Circuit{Bads: []uint32{0}}, 0, api.MaxFrames, 0},
		{"one bad literal does not count for another", api.Circuit{Bads: []uint32{1, 0}}, 1, 9, 0},
		{"the last number", line(5), 0, 6, 6},
		{"one frame too few", line(5), 0, 5, 0},
		{"more frames than it takes", line(5), 0, 9, 6},
		{"a constraint that never lets it be", late, 0, 20, 0},
		{"a constraint that breaks ahead of it", api.Circuit{Latches: []api.Latch{{Next: 1}, {Next: 2}}, Bads: []uint32{4}, Constraints: []uint32{3}}, 0, 9, 0},
		{"a failure that can't be later", api.Circuit{Latches: []api.Latch{{Next: 1}, {Next: 1, Reset: 1}}, Bads: []uint32{3}}, 0, 9, 1},
		{"a counter", full(4), 0, 30, 16},
		{"a counter, one frame too few", full(4), 0, 15, 0},
	} {
		if n, sure := find(t, c.c, c.bad, c.most, api.MaxBudget); n != c.want || !sure {
			t.Errorf("%s: Find: %d frames, %t, not %d", c.what, n, sure, c.want)
		}
	}
}

// P16.2: as many frames as there may be.
func TestFindOfMostFrames(t *testing.T) {
	c := full(8)
	c.Constraints = []uint32{2}
	if n, sure := find(t, c, 0, api.MaxFrames, api.MaxBudget); n != api.MaxFrames || !sure {
		t.Errorf("Find: %d frames, %t", n, sure)
	}
	if n, sure := find(t, c, 0, api.MaxFrames-1, api.MaxBudget); n != 0 || !sure {
		t.Errorf("Find: %d frames, %t", n, sure)
	}
}

// filled puts gates behind those of a circuit that nothing hangs on: it has too many clauses from 22 frames on.
func filled(c api.Circuit) api.Circuit {
	c.Gates = append(c.Gates, make([]api.Gate, api.MaxVars-norm.Vars(c))...)
	return c
}

// P16.2: the first number of frames that has too many clauses ends the search, if it comes so far.
func TestFindLimit(t *testing.T) {
	if n, sure := find(t, filled(line(20)), 0, api.MaxFrames, 100); n != 21 || !sure {
		t.Errorf("Find: %d frames, %t", n, sure)
	}
	if n, sure := find(t, filled(line(21)), 0, 21, 100); n != 0 || !sure {
		t.Errorf("Find: %d frames, %t", n, sure)
	}
	for _, most := range []int{22, api.MaxFrames} {
		findRefused(t, filled(line(21)), 0, most, 100, api.ErrLimit)
	}
	findRefused(t, filled(line(21)), 1, 22, 100, api.ErrArg)
	findRefused(t, filled(line(21)), 0, 22, -1, api.ErrArg)
	findRefused(t, filled(line(21)), 0, api.MaxFrames+1, 100, api.ErrArg)
}

// P16.2: what was open does not keep a limit from being told.
func TestFindLimitOfOpen(t *testing.T) {
	c := filled(full(5))
	if n, sure := find(t, c, 0, 21, 0); n != 0 || sure {
		t.Errorf("Find: %d frames, %t", n, sure)
	}
	findRefused(t, c, 0, 22, 0, api.ErrLimit)
}

// asked answers what Find should, going by At: the first trace, and whether all that came ahead of it was denied; and how often At was open.
func asked(t *testing.T, c api.Circuit, bad, most, budget int) (x api.Trace, sure bool, open int) {
	t.Helper()
	for n := range most {
		x, a := at(t, c, bad, 1+n, budget)
		switch a {
		case api.Yes:
			return x, open == 0, open
		case api.Open:
			open++
		}
	}
	return api.Trace{}, open == 0, open
}

// P16.2, P16.3: with each budget, Find answers what At does, question by question; one that is open leaves nothing sure, but does not end the search. What is sure is so.
func TestBudgets(t *testing.T) {
	unsure, past := 0, 0
	for _, c := range []struct {
		c                api.Circuit
		most, far, apart int
	}{
		{full(4), 22, 22, 1},
		{full(5), 38, 150, 6},
		{line(3), 9, 10, 3},
		{sample.Full(), 9, 10, 3},
	} {
		first := 1 + slices.Index(judged(c.c, 0, c.most), true)
		for budget := 0; budget < c.far; budget += c.apart {
			want, sure, open := asked(t, c.c, 0, c.most, budget)
			x, found, got, e := Find(c.c, 0, c.most, budget)
			if !norm.SameTrace(x, want) || found == isNone(want) || got != sure || e != api.OK {
				t.Fatalf("Find(%v, 0, %d, %d) = %v, %t, %t, %d, not %v, %t", c.c, c.most, budget, x, found, got, e, want, sure)
			}
			if n := len(x.Frames); sure && n != first || found && n < first {
				t.Fatalf("Find(%v, 0, %d, %d): %d frames, %t, not %d", c.c, c.most, budget, n, sure, first)
			}
			if !sure {
				unsure++
			}
			if found && open > 0 {
				past++
			}
		}
	}
	if unsure < 25 || past < 10 {
		t.Errorf("only %d times not sure, only %d times something found all the same", unsure, past)
	}
}

// P16.1: a question is open with small budgets alone, and never with the greatest one.
func TestOpen(t *testing.T) {
	for _, c := range []struct {
		frames int
		want   api.Answer
	}{{15, api.No}, {31, api.No}, {32, api.Yes}, {40, api.Yes}} {
		open := 0
		for budget := 0; ; budget++ {
			if _, a := at(t, full(5), 0, c.frames, budget); a != api.Open {
				if a != c.want {
					t.Errorf("At(.., %d, %d): %d", c.frames, budget, a)
				}
				break
			}
			open++
		}
		if _, a := at(t, full(5), 0, c.frames, api.MaxBudget); a != c.want || open == 0 {
			t.Errorf("At(.., %d): %d; %d times open", c.frames, a, open)
		}
	}
}

// deep answers a circuit whose bad literal takes a value of each latch: its traces fail later than most.
func deep(roll func(int) int) api.Circuit {
	c := sample.Circuit(roll)
	for len(c.Latches) < 2 || c.Inputs == 0 {
		c = sample.Circuit(roll)
	}
	all := uint32(1)
	for i := range c.Latches {
		c.Latches[i].Reset = uint8(roll(2))
		latch := uint32(2*(1+c.Inputs+i) + roll(2))
		c.Gates = append(c.Gates, api.Gate{A: max(latch, all), B: min(latch, all)})
		all = uint32(2 * norm.Vars(c))
	}
	c.Bads = append(c.Bads, all)
	return c
}

// P16.3, P0.3: what is found fails, and no trace with fewer frames does; At and Find agree with a walk through all states.
func TestAgainstWalk(t *testing.T) {
	const most = 10
	roll := sample.Dice(16)
	later, never := 0, 0
	for i := range 3000 {
		c := sample.Circuit(roll)
		if i%2 == 0 {
			c = deep(roll)
		}
		bad := len(c.Bads) - 1
		fails := judged(c, bad, most)
		for n, is := range fails {
			if _, a := at(t, c, bad, 1+n, api.MaxBudget); (a == api.Yes) != is || a == api.Open {
				t.Fatalf("At(%v, %d, %d): %d, and one fails: %t", c, bad, 1+n, a, is)
			}
		}
		want := 1 + slices.Index(fails, true)
		if n, sure := find(t, c, bad, most, api.MaxBudget); n != want || !sure {
			t.Fatalf("Find(%v, %d, %d): %d frames, %t, not %d", c, bad, most, n, sure, want)
		}
		if want > 0 {
			if n, sure := find(t, c, bad, want-1, api.MaxBudget); n != 0 || !sure {
				t.Fatalf("Find(%v, %d, %d): %d frames, %t", c, bad, want-1, n, sure)
			}
		}
		switch {
		case want > 2:
			later++
		case want == 0:
			never++
		}
	}
	if later < 100 || never < 300 {
		t.Errorf("only %d fail later, only %d never", later, never)
	}
}

// P16.1, P16.2: the same call answers the same, and changes neither its arguments nor their spare capacity.
func TestChangesNoArgument(t *testing.T) {
	c := sample.RoomyCircuit(full(4))
	x, _ := at(t, c, 0, 18, 100000)
	y, _, _, _ := Find(c, 0, 18, 100000)
	for range 3 {
		if again, _ := at(t, c, 0, 18, 100000); !norm.SameTrace(again, x) {
			t.Errorf("At = %v, and %v ahead of it", again, x)
		}
		if again, _, _, _ := Find(c, 0, 18, 100000); !norm.SameTrace(again, y) {
			t.Errorf("Find = %v, and %v ahead of it", again, y)
		}
	}
	if !sample.UntouchedCircuit(c, full(4)) {
		t.Errorf("the circuit was changed: %v", c)
	}
}

// P16.1, P16.2: traces are new memory, list by list.
func TestSharesNothing(t *testing.T) {
	c := line(3)
	c.Latches[0].Reset = api.X
	for range 2 {
		x, _ := at(t, c, 0, 3, 100)
		y, _, _, _ := Find(c, 0, 3, 100)
		lists := slices.Concat([][]uint8{x.Init, y.Init}, x.Frames, y.Frames)
		if len(lists) != 8 || !sample.Apart(lists, 9) {
			t.Errorf("a change to a list shows elsewhere: %v", lists)
		}
	}
}

// The chapter's example.
func TestExample(t *testing.T) {
	c := line(2)
	if _, a := at(t, c, 0, 2, 100); a != api.No {
		t.Errorf("At: %d", a)
	}
	x, found, sure, e := Find(c, 0, 9, 100)
	if len(x.Frames) != 3 || x.Frames[0][0] != 1 || !found || !sure || e != api.OK {
		t.Errorf("Find = %v, %t, %t, %d", x, found, sure, e)
	}
	if n, sure := find(t, c, 0, 2, 100); n != 0 || !sure {
		t.Errorf("Find: %d frames, %t", n, sure)
	}
}

// DOC.md, examples 8 and 9 of the whole: a bad literal that is an input fails at once; a trace that could have been shorter is found shorter.
func TestExamplesOfTheWhole(t *testing.T) {
	if n, sure := find(t, api.Circuit{Inputs: 1, Bads: []uint32{2}}, 0, 9, 0); n != 1 || !sure {
		t.Errorf("Find: %d frames, %t", n, sure)
	}
	c := sample.Counter(3)
	c.Bads = []uint32{8}
	long := told(0, "000", "0", "1", "0", "1", "0", "1", "1", "0")
	if is, e := sim.Fails(c, long); !is || e != api.OK {
		t.Fatalf("Fails = %t, %d", is, e)
	}
	if n, sure := find(t, c, 0, len(long.Frames)-1, 1000); n != 5 || !sure {
		t.Errorf("Find: %d frames, %t", n, sure)
	}
}
