package tally

import (
	"math"
	"slices"
	"testing"

	"inquest/api"
	"inquest/clause"
	"inquest/sample"
	"inquest/sat"
)

var lits = sample.Lits

// build answers a tally that there ought to be.
func build(t *testing.T, l []int, outs, next int) (c [][]int, out []int, after int) {
	t.Helper()
	c, out, after, e := Build(l, outs, next)
	if e != api.OK {
		t.Fatalf("Build(%d literals, %d, %d): %d", len(l), outs, next, e)
	}
	return c, out, after
}

// upTo answers the literals 1 to many.
func upTo(many int) []int {
	l := make([]int, many)
	for i := range l {
		l[i] = 1 + i
	}
	return l
}

// trueOnes answers how many of the literals are true in a model.
func trueOnes(l []int, model []bool) int {
	n := 0
	for _, lit := range l {
		if model[max(lit, -lit)] == (lit > 0) {
			n++
		}
	}
	return n
}

// variables answers the greatest one that occurs, or 0.
func variables(c [][]int, out []int) int {
	n := 0
	for _, x := range append(slices.Clone(c), out) {
		for _, lit := range x {
			n = max(n, lit, -lit)
		}
	}
	return n
}

// shaped tells of a tally whose outputs are not as many as there should be, or whose variables are not those that it says.
func shaped(t *testing.T, l []int, outs, next int, c [][]int, out []int, after int) {
	t.Helper()
	if len(out) != min(outs, len(l)) {
		t.Fatalf("Build(%v, %d, %d): outputs %v", l, outs, next, out)
	}
	if !clause.May(c, after-1) || !clause.May([][]int{out}, after-1) {
		t.Fatalf("Build(%v, %d, %d): these are no clauses of the variables below %d: %v, %v", l, outs, next, after, c, out)
	}
	if own := max(next, 1+variables(c, out)); after != own {
		t.Fatalf("Build(%v, %d, %d): the first variable that is not used is %d, not %d", l, outs, next, own, after)
	}
}

// counted tells of a tally that is wrong where the variables have values: given are literals of all variables below next.
func counted(t *testing.T, l []int, next int, c [][]int, out []int, after int, given []int) {
	t.Helper()
	must, ok := clause.Must(c, given, after-1)
	if !ok || len(must) != after-1 {
		t.Fatalf("tally of %d literals: %d of %d variables follow, %t", len(l), len(must), after-1, ok)
	}
	model := make([]bool, after)
	for v, lit := range must {
		model[v+1] = lit > 0
	}
	if !clause.Holds(c, model) {
		t.Fatalf("tally of %d literals: what follows is no model", len(l))
	}
	many := trueOnes(l, model)
	for i, lit := range out {
		if (trueOnes([]int{lit}, model) == 1) != (many > i) {
			t.Fatalf("tally of %d literals: %d are true, and output %d is wrong", len(l), many, i)
		}
	}
}

// someValues answers a literal of each variable below next; of roughly one in as many, it is not negated.
func someValues(roll func(int) int, next, oneIn int) []int {
	l := upTo(next - 1)
	for i := range l {
		if roll(oneIn) > 0 {
			l[i] = -l[i]
		}
	}
	return l
}

// P15.1: how many outputs there are, and which variables are used.
func TestShape(t *testing.T) {
	for _, text := range []string{"", "1", "-1", "1 2", "2 -1", "3 3", "3 -3", "1 2 3", "-3 1 -2 3 1", "5 4 3 2 1", "1 2 3 4 5 6 7 8", "1 -2 3 -4 5 -6 7 -8 9"} {
		l := lits(text)
		for _, next := range []int{10, 11, 99, api.MaxVars, mostVars - 99} {
			for _, outs := range []int{0, 1, 2, 3, 4, 5, 8, 9, 10, 4096, 4097, 1 << 31, 1 << 32, 1<<32 + 1, math.MaxInt} {
				c, out, after := build(t, l, outs, next)
				shaped(t, l, outs, next, c, out, after)
			}
		}
	}
}

// P15.1: without an output there is nothing to make.
func TestNothing(t *testing.T) {
	for _, x := range []struct {
		lits       []int
		outs, next int
	}{
		{nil, 0, 1}, {nil, 5, 1}, {[]int{}, 5, 3}, {nil, math.MaxInt, mostVars}, {lits("1"), 0, 2}, {lits("1 -2 3"), 0, 9}, {upTo(api.MaxLits), 0, mostVars},
	} {
		c, out, after, e := Build(x.lits, x.outs, x.next)
		if len(c) > 0 || len(out) > 0 || after != x.next || e != api.OK {
			t.Errorf("Build(%d literals, %d, %d) = %v, %v, %d, %d", len(x.lits), x.outs, x.next, c, out, after, e)
		}
	}
}

// refused tells of a call that ought to have answered an error, and nothing beside it.
func refused(t *testing.T, l []int, outs, next int, want api.Errno) {
	t.Helper()
	c, out, after, e := Build(l, outs, next)
	if len(c) > 0 || len(out) > 0 || after != 0 || e != want {
		t.Errorf("Build(%d literals, %d, %d) = %d clauses, %d outputs, %d, %d", len(l), outs, next, len(c), len(out), after, e)
	}
}

// P15.1: literals that can't be.
func TestWrongLits(t *testing.T) {
	for _, lit := range sample.NoLits() {
		for i := range 3 {
			l := []int{1, -2, 3}
			l[i] = lit
			refused(t, l, 2, 4, api.ErrArg)
			refused(t, l, 0, 4, api.ErrArg)
		}
		refused(t, []int{lit}, 1, 4, api.ErrArg)
	}
	for _, next := range []int{1, 2, 3, 99, mostVars} {
		for _, lit := range []int{next, -next, next + 1, -next - 1} {
			refused(t, []int{lit}, 1, next, api.ErrArg)
			refused(t, []int{lit, lit}, 0, next, api.ErrArg)
		}
		if next > 1 {
			for _, lit := range []int{next - 1, 1 - next} {
				c, out, after := build(t, []int{lit}, 1, next)
				shaped(t, []int{lit}, 1, next, c, out, after)
			}
		}
	}
}

// P15.1: first variables that can't be, and numbers of outputs that can't be.
func TestWrongNumbers(t *testing.T) {
	for _, next := range []int{0, -1, -2, mostVars + 1, mostVars + 2, 1 << 31, 1 << 32, 1<<32 + 3, math.MaxInt, math.MinInt, math.MinInt + 1, math.MinInt + 4} {
		for _, l := range [][]int{nil, {1}, {-1, 2}} {
			for _, outs := range []int{0, 1, 2, math.MaxInt} {
				refused(t, l, outs, next, api.ErrArg)
			}
		}
	}
	for _, outs := range []int{-1, -2, -1 << 31, -1 << 32, 1 - 1<<32, math.MinInt, math.MinInt + 1} {
		for _, l := range [][]int{nil, {1}, {-1, 2}} {
			refused(t, l, outs, 3, api.ErrArg)
			refused(t, l, outs, mostVars, api.ErrArg)
		}
	}
}

// P15.1: as many literals as there may be, and one more.
func TestMostLits(t *testing.T) {
	l := upTo(api.MaxLits + 1)
	for _, outs := range []int{0, 1, 4, math.MaxInt} {
		refused(t, l, outs, api.MaxLits+2, api.ErrArg)
		refused(t, slices.Repeat([]int{-1}, api.MaxLits+1), outs, 2, api.ErrArg)
	}
	l = l[:api.MaxLits]
	for _, outs := range []int{1, 2, 4, 17} {
		for _, next := range []int{api.MaxLits + 1, mostVars - 8*api.MaxLits} {
			c, out, after := build(t, l, outs, next)
			shaped(t, l, outs, next, c, out, after)
		}
	}
}

// wanted answers how many clauses a merge takes by the pairs of counts that it is about, pair by pair, and so all merges of as many literals.
func wanted(many, outs int) int {
	if many < 2 {
		return 0
	}
	left, right := many/2, many-many/2
	n := wanted(left, outs) + wanted(right, outs)
	for i := range min(left, outs) + 1 {
		for j := range min(right, outs) + 1 {
			if i+j > 0 && i+j <= min(many, outs) {
				n++
			}
			if i+j < min(many, outs) {
				n++
			}
		}
	}
	return n
}

// P15.1: as many clauses as there may be, and more.
func TestClausesLimit(t *testing.T) {
	for _, x := range []struct{ many, outs, more int }{{1014, 1014, 1}, {1014, 1014, api.MaxLits - 1014}, {1014, math.MaxInt, 1}, {1014, 1016, 2}, {2615, 200, 1}, {1016, 950, 1}, {1016, 950, api.MaxLits - 1016}} {
		l := upTo(api.MaxLits)
		c, out, after := build(t, l[:x.many], x.outs, api.MaxLits+1)
		shaped(t, l[:x.many], x.outs, api.MaxLits+1, c, out, after)
		if n := wanted(x.many, x.outs); len(c) != n || n > api.MaxClauses {
			t.Errorf("%d literals, %d outputs: %d clauses, not %d", x.many, x.outs, len(c), n)
		}
		l = l[:x.many+x.more]
		if n := wanted(len(l), x.outs); n <= api.MaxClauses {
			t.Errorf("%d literals, %d outputs: no more than %d clauses", len(l), x.outs, n)
		}
		refused(t, l, x.outs, api.MaxLits+1, api.ErrLimit)
		refused(t, l, x.outs, mostVars, api.ErrLimit)
		// What is wrong is told ahead of what is too much.
		refused(t, l, x.outs, len(l), api.ErrArg)
		refused(t, l, x.outs, mostVars+1, api.ErrArg)
		refused(t, append(l[:len(l)-1:len(l)-1], 0), x.outs, api.MaxLits+1, api.ErrArg)
	}
	for outs := 1; outs <= api.MaxLits; outs *= 2 {
		for _, many := range []int{1500, 2048, 3001, api.MaxLits} {
			c, _, _, e := Build(upTo(many), outs, api.MaxLits+1)
			n := wanted(many, outs)
			if is := e == api.OK && len(c) == n; is != (n <= api.MaxClauses) || !is && (e != api.ErrLimit || len(c) > 0) {
				t.Errorf("%d literals, %d outputs: %d clauses, not %d, %d", many, outs, len(c), n, e)
			}
		}
	}
}

// P15.1: as many variables as there may be, and one more.
func TestVarsLimit(t *testing.T) {
	for _, x := range []struct {
		text string
		outs int
	}{
		{"1 2", 1}, {"1 2", 2}, {"1 -1", 2}, {"1 2 3", 1}, {"1 2 3", 2}, {"1 2 3", 9}, {"1 2 3 4 5 6 7 8 9", 4}, {"1 2 3 4 5 6 7 8 9", 9},
	} {
		l := lits(x.text)
		_, _, after := build(t, l, x.outs, 10)
		own := after - 10
		for next := mostVars - own - 2; next <= mostVars-own+1; next++ {
			c, out, after := build(t, l, x.outs, next)
			shaped(t, l, x.outs, next, c, out, after)
			if after != next+own {
				t.Errorf("Build(%v, %d, %d): %d", l, x.outs, next, after)
			}
		}
		for next := mostVars - own + 2; next <= mostVars; next++ {
			refused(t, l, x.outs, next, api.ErrLimit)
			refused(t, append(lits("0"), l...), x.outs, next, api.ErrArg)
			refused(t, l, -x.outs, next, api.ErrArg)
		}
		refused(t, l, x.outs, mostVars+1, api.ErrArg)
	}
	// Two literals need a variable for one output, and two for both; a single literal needs none.
	for _, x := range []struct {
		text       string
		outs, next int
		e          api.Errno
	}{
		{"1 2", 2, mostVars, api.ErrLimit}, {"1 2", 2, mostVars - 1, api.OK}, {"1 2", 1, mostVars, api.OK}, {"-1", 9, mostVars, api.OK}, {"", 9, mostVars, api.OK},
	} {
		if _, _, _, e := Build(lits(x.text), x.outs, x.next); e != x.e {
			t.Errorf("Build(%s, %d, %d): %d", x.text, x.outs, x.next, e)
		}
	}
	refused(t, upTo(api.MaxLits), 4, mostVars-api.MaxLits, api.ErrLimit)
}

// P15.2: the negation of the output.
func TestMost(t *testing.T) {
	out := lits("7 -3 9 1")
	for _, x := range []struct {
		k    int
		want string
		e    api.Errno
	}{
		{0, "-7", api.OK}, {1, "3", api.OK}, {2, "-9", api.OK}, {3, "-1", api.OK},
		{4, "", api.OK}, {5, "", api.OK}, {1 << 31, "", api.OK}, {1 << 32, "", api.OK}, {1<<32 + 1, "", api.OK}, {math.MaxInt, "", api.OK},
		{-1, "", api.ErrArg}, {-4, "", api.ErrArg}, {-1 << 32, "", api.ErrArg}, {1 - 1<<32, "", api.ErrArg}, {math.MinInt, "", api.ErrArg}, {math.MinInt + 1, "", api.ErrArg},
	} {
		if l, e := Most(out, x.k); !slices.Equal(l, lits(x.want)) || e != x.e {
			t.Errorf("Most(%v, %d) = %v, %d", out, x.k, l, e)
		}
		if l, e := Most(nil, x.k); len(l) > 0 || e != x.e {
			t.Errorf("Most(none, %d) = %v, %d", x.k, l, e)
		}
	}
	for _, out := range [][]int{{0}, {math.MinInt}, {math.MaxInt}} {
		if l, e := Most(out, 0); len(l) != 1 || e != api.OK {
			t.Errorf("Most(%v, 0) = %v, %d", out, l, e)
		}
	}
}

// P15.3: all values of a few variables; literals occur twice, and with their negations.
func TestAllValues(t *testing.T) {
	roll := sample.Dice(1)
	for range 400 {
		vars := 1 + roll(4)
		l, next := sample.SomeLits(roll, vars, roll(9)), vars+1+roll(2)
		outs := roll(len(l) + 3)
		c, out, after := build(t, l, outs, next)
		shaped(t, l, outs, next, c, out, after)
		for bits := range 1 << (next - 1) {
			given := upTo(next - 1)
			for i := range given {
				if bits>>i&1 == 0 {
					given[i] = -given[i]
				}
			}
			counted(t, l, next, c, out, after, given)
		}
	}
}

// P15.3: each number of literals up to 40, each number of outputs, each count of true ones.
func TestEachCount(t *testing.T) {
	roll := sample.Dice(2)
	for many := range 41 {
		l, next := upTo(many), many+1
		for _, outs := range []int{1, 2, 3, 5, many / 2, many - 1, many, many + 1} {
			if outs < 0 {
				continue
			}
			c, out, after := build(t, l, outs, next)
			shaped(t, l, outs, next, c, out, after)
			for count := range many + 1 {
				// Which ones are true is chance.
				given := slices.Clone(l)
				for i := range given {
					j := i + roll(many-i)
					given[i], given[j] = given[j], given[i]
				}
				for i := count; i < many; i++ {
					given[i] = -given[i]
				}
				counted(t, l, next, c, out, after, given)
			}
		}
	}
}

// P15.3: many literals.
func TestManyLits(t *testing.T) {
	roll := sample.Dice(3)
	for _, x := range []struct{ many, outs, vars int }{{200, 200, 200}, {333, 100, 40}, {1000, 17, 1000}, {api.MaxLits, 4, api.MaxLits}, {api.MaxLits, 60, 300}, {1014, 1014, 500}} {
		l, next := sample.SomeLits(roll, x.vars, x.many), x.vars+1
		c, out, after := build(t, l, x.outs, next)
		for _, oneIn := range []int{1, 2, 2, 9} {
			counted(t, l, next, c, out, after, someValues(roll, next, oneIn))
		}
	}
	// As few are true as the outputs can tell apart.
	for few := range 7 {
		l, next := upTo(api.MaxLits), api.MaxLits+1
		c, out, after := build(t, l, 4, next)
		given := upTo(api.MaxLits)
		for i := range given {
			given[i] = -given[i]
		}
		for i := range few {
			at := (i*977 + 5) % api.MaxLits
			given[at] = at + 1
		}
		counted(t, l, next, c, out, after, given)
	}
}

// solver answers one that has a tally of the literals.
func solver(t *testing.T, l []int, outs, next int) (*sat.Solver, []int) {
	t.Helper()
	c, out, after := build(t, l, outs, next)
	s, e := sat.New(after - 1)
	if e != api.OK {
		t.Fatalf("New(%d): %d", after-1, e)
	}
	for _, x := range c {
		if e := s.Add(x); e != api.OK {
			t.Fatalf("Add(%v): %d", x, e)
		}
	}
	return s, out
}

// P15.2, P15.3: where at most k are to be true, there is a model just where that can be.
func TestBounded(t *testing.T) {
	roll := sample.Dice(4)
	answers := map[api.Answer]int{}
	for range 2000 {
		vars := 1 + roll(12)
		l := sample.SomeLits(roll, vars, 1+roll(20))
		s, out := solver(t, l, 1+roll(len(l)), vars+1)
		k := roll(len(out))
		given, e := Most(out, k)
		if len(given) != 1 || e != api.OK {
			t.Fatalf("Most(%v, %d) = %v, %d", out, k, given, e)
		}
		// The least count that can be under the values of a few variables.
		fixed := map[int]bool{}
		for _, lit := range sample.SomeLits(roll, vars, roll(vars+1)) {
			if _, ok := fixed[max(lit, -lit)]; !ok {
				fixed[max(lit, -lit)] = lit > 0
				given = append(given, lit)
			}
		}
		least := 0
		for v := 1; v <= vars; v++ {
			is, isNot := 0, 0
			for _, lit := range l {
				switch lit {
				case v:
					is++
				case -v:
					isNot++
				}
			}
			value, ok := fixed[v]
			switch {
			case !ok:
				least += min(is, isNot)
			case value:
				least += is
			default:
				least += isNot
			}
		}
		want := api.Answer(api.No)
		if least <= k {
			want = api.Yes
		}
		answers[want]++
		a, e := s.Solve(given, api.MaxBudget)
		if a != want || e != api.OK {
			t.Fatalf("%v, at most %d, given %v: %d, %d; the least count is %d", l, k, given, a, e, least)
		}
		if a == api.Yes && trueOnes(l, s.Model()) > k {
			t.Fatalf("%v, at most %d, given %v: more are true in %v", l, k, given, s.Model())
		}
	}
	if answers[api.Yes] < 300 || answers[api.No] < 300 {
		t.Errorf("answers: %v", answers)
	}
}

// P15.3: two tallies of the same literals, one behind the other, are of the same opinion.
func TestTwoTallies(t *testing.T) {
	roll := sample.Dice(5)
	for range 60 {
		vars := 2 + roll(6)
		l := sample.SomeLits(roll, vars, 2+roll(8))
		c, out, after := build(t, l, len(l), vars+1)
		turned := slices.Clone(l)
		slices.Reverse(turned)
		more, again, last := build(t, turned, len(l), after)
		s, _ := sat.New(last - 1)
		for _, x := range slices.Concat(c, more) {
			s.Add(x)
		}
		for i := range l {
			for _, given := range [][]int{{out[i], -again[i]}, {-out[i], again[i]}} {
				if a, e := s.Solve(given, api.MaxBudget); a != api.No || e != api.OK {
					t.Fatalf("%v: output %d: %d, %d", l, i, a, e)
				}
			}
		}
		if a, e := s.Solve(nil, api.MaxBudget); a != api.Yes || e != api.OK {
			t.Fatalf("%v: %d, %d", l, a, e)
		}
	}
}

// P15.1, P15.2: arguments and their spare capacity stay as they are.
func TestChangesNoArgument(t *testing.T) {
	for _, text := range []string{"", "2", "1 -2", "3 -1 3 2 -2"} {
		for _, outs := range []int{0, 1, 2, 9} {
			l := sample.Roomy(lits(text))
			Build(l, outs, 4)
			Build(l, outs, 1)
			Build(l, outs, mostVars)
			Build(l, -1, 4)
			for k := -1; k < 7; k++ {
				Most(l, k)
			}
			if !sample.Untouched(l, lits(text)) {
				t.Errorf("%s became %v of %v", text, l, l[:cap(l)])
			}
		}
	}
}

// P15.1, P15.2: results are new memory, list by list; what is done to one does not show in the next answer.
func TestSharesNothing(t *testing.T) {
	for _, text := range []string{"", "2", "1 -2", "3 -1 3 2 -2", "1 2 3 1 2 3 -1 -2 -3"} {
		for _, outs := range []int{0, 1, 2, 9} {
			l := lits(text)
			c, out, _ := build(t, l, outs, 4)
			again, same, _ := build(t, l, outs, 4)
			most, _ := Most(out, 0)
			lists := append(slices.Clone(c), out, most, l)
			if !sample.Apart(append(lists, append(slices.Clone(again), same)...), 77) {
				t.Errorf("Build(%s, %d): lists share memory", text, outs)
			}
			// The list of the clauses itself.
			c, _, _ = build(t, lits(text), outs, 4)
			again, _, _ = build(t, lits(text), outs, 4)
			was := slices.Clone(again)
			for i := range c[:cap(c)] {
				c[:cap(c)][i] = nil
			}
			if !slices.EqualFunc(again, was, slices.Equal) {
				t.Errorf("Build(%s, %d): %v became %v", text, outs, was, again)
			}
		}
	}
}

// Rule 8: the same call answers the same.
func TestSameAnswer(t *testing.T) {
	l := lits("3 -1 4 1 -5 -2 3")
	c, out, after := build(t, l, 5, 6)
	Build(upTo(99), 98, 100)
	again, same, last := build(t, l, 5, 6)
	if !slices.EqualFunc(c, again, slices.Equal) || !slices.Equal(out, same) || after != last {
		t.Errorf("Build = %v, %v, %d, and then %v, %v, %d", c, out, after, again, same, last)
	}
}

// The chapter's examples.
func TestExamples(t *testing.T) {
	l, out, after := build(t, []int{1, 2}, 2, 3)
	if len(out) != 2 {
		t.Fatalf("outputs: %v", out)
	}
	must, ok := clause.Must(l, []int{1, -2}, after-1)
	if !ok || !slices.Contains(must, out[0]) || !slices.Contains(must, -out[1]) {
		t.Errorf("outputs %v; what follows: %v, %t", out, must, ok)
	}
	refused(t, []int{0}, 1, 3, api.ErrArg)
	refused(t, []int{3}, 1, 3, api.ErrArg)
	if l, out, after, e := Build(nil, 5, 3); len(l) > 0 || len(out) > 0 || after != 3 || e != api.OK {
		t.Errorf("Build(none, 5, 3) = %v, %v, %d, %d", l, out, after, e)
	}
	if l, e := Most(out, 1); !slices.Equal(l, []int{-out[1]}) || e != api.OK {
		t.Errorf("Most(%v, 1) = %v, %d", out, l, e)
	}
	if l, e := Most(out, 2); len(l) > 0 || e != api.OK {
		t.Errorf("Most(%v, 2) = %v, %d", out, l, e)
	}
}
