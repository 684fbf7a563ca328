package sat

import (
	"math"
	"slices"
	"testing"

	"inquest/api"
	"inquest/clause"
	"inquest/sample"
)

const (
	most   = api.MaxVars * api.MaxFrames
	budget = api.MaxBudget
)

var (
	lits    = sample.Lits
	clauses = sample.Clauses
)

// judged is a solver as the chapter's words tell it: of few variables, each combination of values is looked at. Bit v-1 of an index is the value of variable v.
type judged struct {
	vars    int
	clauses [][]int
	models  []bool
}

func newJudged(vars int) *judged {
	return &judged{vars: vars, models: slices.Repeat([]bool{true}, 1<<vars)}
}

func isTrueIn(model, lit int) bool {
	if lit < 0 {
		return !isTrueIn(model, -lit)
	}
	return model>>(lit-1)&1 == 1
}

func (j *judged) more(n int) {
	j.vars += n
	j.models = slices.Repeat(j.models, 1<<n)
}

func (j *judged) add(l []int) {
	j.clauses = append(j.clauses, l)
	for m := range j.models {
		j.models[m] = j.models[m] && slices.ContainsFunc(l, func(lit int) bool { return isTrueIn(m, lit) })
	}
}

func (j *judged) hasModel(given []int) bool {
	for m, is := range j.models {
		if is && !slices.ContainsFunc(given, func(lit int) bool { return !isTrueIn(m, lit) }) {
			return true
		}
	}
	return false
}

// alone answers a clause for each literal.
func alone(l []int) [][]int {
	var out [][]int
	for _, lit := range l {
		out = append(out, []int{lit})
	}
	return out
}

// of answers a solver with clauses.
func of(t *testing.T, vars int, l [][]int) *Solver {
	t.Helper()
	s, e := New(vars)
	if s == nil || e != api.OK {
		t.Fatalf("New(%d): error %d", vars, e)
	}
	addAll(t, s, l)
	return s
}

func addAll(t *testing.T, s *Solver, l [][]int) {
	t.Helper()
	for _, c := range l {
		fine(t, s.Add(c))
	}
}

// fine takes the answer of a call that is to succeed.
func fine(t *testing.T, e api.Errno) {
	t.Helper()
	if e != api.OK {
		t.Fatalf("error %d", e)
	}
}

// noResults fails if there is a model or a core.
func noResults(t *testing.T, s *Solver) {
	t.Helper()
	if m, c := s.Model(), s.Core(); len(m) > 0 || len(c) > 0 {
		t.Fatalf("there is a model, %v, or a core, %v", m, c)
	}
}

// ask asks, and looks whether the answer is one that can be right: a model is one, a core is made of what is given, Open came of a spent budget.
func ask(t *testing.T, s *Solver, l [][]int, given []int, budget int) api.Answer {
	t.Helper()
	was := slices.Clone(given)
	a, e := s.Solve(given, budget)
	fine(t, e)
	if !slices.Equal(given, was) {
		t.Fatalf("the given literals were %v, and are %v", was, given)
	}
	model, core, n := s.Model(), s.Core(), s.Conflicts()
	if n < 0 || budget < api.MaxBudget && n > budget {
		t.Fatalf("%d conflicts of %d", n, budget)
	}
	if a != api.Yes && len(model) > 0 || a != api.No && len(core) > 0 {
		t.Fatalf("answer %d: model %v, core %v", a, model, core)
	}
	switch a {
	case api.Yes:
		if len(model) != s.Vars()+1 || model[0] {
			t.Fatalf("a model of %d variables: %v", s.Vars(), model)
		}
		if !clause.Holds(l, model) || !clause.Holds(alone(given), model) {
			t.Fatalf("%v, given %v: %v is no model", l, given, model)
		}
	case api.No:
		if !isPartOf(core, given) {
			t.Fatalf("given %v: the core is %v", given, core)
		}
	case api.Open:
		if n != budget || budget == api.MaxBudget {
			t.Fatalf("open, after %d conflicts of %d", n, budget)
		}
	default:
		t.Fatalf("answer %d", a)
	}
	return a
}

// isPartOf tells whether a core has some of the given literals, each once, in the order of where each occurs first.
func isPartOf(core, given []int) bool {
	at := -1
	for _, lit := range core {
		i := slices.Index(given, lit)
		if i <= at {
			return false
		}
		at = i
	}
	return true
}

// askJudged asks, and holds the answer against what is right.
func askJudged(t *testing.T, s *Solver, j *judged, given []int, budget int) api.Answer {
	t.Helper()
	a := ask(t, s, j.clauses, given, budget)
	if is := j.hasModel(given); a == api.Yes && !is || a == api.No && is {
		t.Fatalf("%v, given %v: answer %d", j.clauses, given, a)
	}
	if a == api.No && j.hasModel(s.Core()) {
		t.Fatalf("%v, given %v: the core %v has a model", j.clauses, given, s.Core())
	}
	return a
}

// pigeons answers clauses that put one more than n pigeons into n holes, none of them with another one.
func pigeons(n int) (l [][]int, vars int) {
	in := func(pigeon, hole int) int { return 1 + pigeon*n + hole }
	for p := range n + 1 {
		var c []int
		for h := range n {
			c = append(c, in(p, h))
		}
		l = append(l, c)
		for q := range p {
			for h := range n {
				l = append(l, []int{-in(q, h), -in(p, h)})
			}
		}
	}
	return l, n * (n + 1)
}

// triples answers clauses of three different variables each; a model that is passed is one of theirs.
func triples(roll func(int) int, vars, many int, model []bool) [][]int {
	var l [][]int
	for len(l) < many {
		c := sample.SomeLits(roll, vars, 3)
		o, _, _ := clause.Order(c, vars)
		if len(o) == 3 && (model == nil || clause.Holds([][]int{c}, model)) {
			l = append(l, c)
		}
	}
	return l
}

// mixed answers clauses with other numbers and signs of their variables, in another order.
func mixed(roll func(int) int, vars int, l [][]int) [][]int {
	to := make([]int, vars+1)
	for v := 1; v <= vars; v++ {
		other := 1 + roll(v)
		to[v], to[other] = to[other], v
	}
	for v := range to {
		to[v] *= 1 - 2*roll(2)
	}
	out := make([][]int, len(l))
	for i, c := range l {
		other := roll(i + 1)
		out[i] = out[other]
		out[other] = nil
		for _, lit := range c {
			if lit < 0 {
				out[other] = append(out[other], -to[-lit])
			} else {
				out[other] = append(out[other], to[lit])
			}
		}
	}
	return out
}

// P13.1: New, Vars.
func TestNew(t *testing.T) {
	for _, vars := range sample.NoVars() {
		if s, e := New(vars); s != nil || e != api.ErrArg {
			t.Errorf("New(%d) = %v, %d", vars, s, e)
		}
	}
	for _, vars := range []int{0, 1, 2, 9, most} {
		s := of(t, vars, nil)
		if s.Vars() != vars || s.Conflicts() != 0 {
			t.Errorf("New(%d): %d variables, %d conflicts", vars, s.Vars(), s.Conflicts())
		}
		noResults(t, s)
	}
}

// P13.1 to P13.3: a solver that no call made.
func TestNoSolver(t *testing.T) {
	for _, s := range []*Solver{nil, {}} {
		for _, n := range []int{0, 1, -1, math.MaxInt, math.MinInt} {
			if e := s.More(n); e != api.ErrNil {
				t.Errorf("More(%d): error %d", n, e)
			}
			if e := s.Add([]int{n}); e != api.ErrNil {
				t.Errorf("Add(%d): error %d", n, e)
			}
			if a, e := s.Solve([]int{n}, n); a != api.Open || e != api.ErrNil {
				t.Errorf("Solve(%d): %d, error %d", n, a, e)
			}
		}
		if a, e := s.Solve(nil, 1); a != api.Open || e != api.ErrNil || s.Add(nil) != api.ErrNil {
			t.Errorf("Solve: %d, error %d", a, e)
		}
		if s.Vars() != 0 || s.Conflicts() != 0 {
			t.Errorf("%d variables, %d conflicts", s.Vars(), s.Conflicts())
		}
		noResults(t, s)
	}
}

// P13.1: More.
func TestMore(t *testing.T) {
	s := of(t, 3, nil)
	for _, c := range []struct {
		n, vars int
		e       api.Errno
	}{
		{0, 3, api.OK},
		{1, 4, api.OK},
		{-1, 4, api.ErrArg},
		{math.MinInt, 4, api.ErrArg},
		{most - 3, 4, api.ErrLimit},
		{most, 4, api.ErrLimit},
		{1 << 32, 4, api.ErrLimit},
		{1<<32 + 1, 4, api.ErrLimit},
		{math.MaxInt, 4, api.ErrLimit},
		{7, 11, api.OK},
		{most - 11, most, api.OK},
		{1, most, api.ErrLimit},
		{math.MaxInt, most, api.ErrLimit},
		{-1, most, api.ErrArg},
		{0, most, api.OK},
	} {
		if e := s.More(c.n); e != c.e || s.Vars() != c.vars {
			t.Errorf("More(%d): error %d, %d variables; not %d, %d", c.n, e, s.Vars(), c.e, c.vars)
		}
	}
}

// P13.1, P13.4: variables that came later are variables as all others are.
func TestMoreVariables(t *testing.T) {
	s, l := of(t, 0, nil), [][]int{}
	ask(t, s, l, nil, 0)
	for v := 1; v <= 300; v++ {
		if e := s.Add([]int{v}); e != api.ErrArg {
			t.Fatalf("Add(%d) ahead of More: error %d", v, e)
		}
		if a, e := s.Solve([]int{-v}, 9); a != api.Open || e != api.ErrArg {
			t.Fatalf("Solve(%d) ahead of More: %d, error %d", v, a, e)
		}
		fine(t, s.More(1))
		if v > 1 {
			l = append(l, []int{1 - v, v}, []int{v - 1, -v})
			addAll(t, s, l[len(l)-2:])
		}
		if a := ask(t, s, l, []int{v}, 0); a != api.Yes || !s.Model()[1] {
			t.Fatalf("%d: answer %d", v, a)
		}
		if a := ask(t, s, l, []int{-v}, 0); a != api.Yes || s.Model()[1] {
			t.Fatalf("%d: answer %d", -v, a)
		}
		if a := ask(t, s, l, []int{1, -v}, 0); a != api.No || len(s.Core()) != 2 {
			t.Fatalf("1 %d: answer %d, core %v", -v, a, s.Core())
		}
	}
}

// P13.1: Add, of what is no clause: the solver stays as it was.
func TestAddRefused(t *testing.T) {
	s := of(t, 3, clauses("1 2;"))
	l := [][]int{make([]int, api.MaxLits+1), slices.Repeat([]int{1, -1}, api.MaxLits)}
	for _, lit := range sample.NoLits() {
		l = append(l, []int{lit}, []int{1, lit}, []int{lit, -1}, []int{2, -2, lit})
	}
	for _, c := range append(l, slices.Repeat([]int{3}, api.MaxLits+1)) {
		if e := s.Add(c); e != api.ErrArg {
			t.Errorf("Add(%v): error %d", c, e)
		}
	}
	for _, given := range []string{"1", "-1", "2", "-2", "3", "-3", "-1 3", "-2 -3"} {
		if a := ask(t, s, clauses("1 2;"), lits(given), 9); a != api.Yes {
			t.Errorf("given %s: answer %d", given, a)
		}
	}
	if e := of(t, 0, nil).Add([]int{1}); e != api.ErrArg {
		t.Errorf("Add(1) without variables: error %d", e)
	}
}

// P13.1: as many clauses as there may be, of all kinds, and one more.
func TestMostClauses(t *testing.T) {
	s := of(t, 3, nil)
	kinds := clauses("1; 1; 2 -2; -1 2; 3 2; 3 -3 3; 1 -2;")
	for i := range api.MaxClauses {
		if e := s.Add(kinds[i%len(kinds)]); e != api.OK {
			t.Fatalf("clause %d: error %d", i, e)
		}
	}
	if a := ask(t, s, kinds, lits("-3"), 9); a != api.Yes {
		t.Fatalf("answer %d", a)
	}
	for _, c := range append(kinds, nil, []int{-1}) {
		if e := s.Add(c); e != api.ErrLimit {
			t.Errorf("Add(%v) beyond the limit: error %d", c, e)
		}
	}
	if e := s.Add([]int{4}); e != api.ErrArg {
		t.Errorf("Add(4) beyond the limit: error %d", e)
	}
	if m := s.Model(); !slices.Equal(m, []bool{false, true, true, false}) {
		t.Errorf("the model has become %v", m)
	}
	if a := ask(t, s, kinds, nil, 9); a != api.Yes {
		t.Errorf("answer %d", a)
	}
	fine(t, s.More(1))
	if e := s.Add([]int{4}); e != api.ErrLimit {
		t.Errorf("Add(4) beyond the limit: error %d", e)
	}
}

// P13.1, P13.2: as many literals as there may be, and one more.
func TestMostLits(t *testing.T) {
	var all, none []int
	for v := 1; v <= api.MaxLits; v++ {
		all, none = append(all, v), append(none, -v)
	}
	s := of(t, api.MaxLits, [][]int{all})
	if a := ask(t, s, [][]int{all}, none[1:], 9); a != api.Yes || !s.Model()[1] {
		t.Errorf("answer %d", a)
	}
	if a := ask(t, s, [][]int{all}, none, 0); a != api.No || !slices.Equal(s.Core(), none) {
		t.Errorf("answer %d, a core of %d", a, len(s.Core()))
	}
	long := append(none, 1)
	if a, e := s.Solve(long, 9); a != api.Open || e != api.ErrArg {
		t.Errorf("too many given literals: %d, error %d", a, e)
	}
	if e := s.Add(long); e != api.ErrArg {
		t.Errorf("too many literals: error %d", e)
	}
	if len(s.Core()) != api.MaxLits {
		t.Errorf("the core has become %v", s.Core())
	}
	fine(t, s.Add(slices.Repeat([]int{-3, 4}, api.MaxLits/2)))
	if a := ask(t, s, nil, slices.Repeat([]int{3, -4}, api.MaxLits/2), 0); a != api.No || !slices.Equal(s.Core(), []int{3, -4}) {
		t.Errorf("answer %d, core %v", a, s.Core())
	}
}

// P13.2: Solve, of what it refuses: nothing changes.
func TestSolveRefused(t *testing.T) {
	l, vars := pigeons(4)
	for _, given := range []string{"21", "-21"} {
		for i := range l {
			l[i] = append(l[i], 21)
		}
		s := of(t, vars+1, l)
		a := ask(t, s, l, lits(given), budget)
		model, core, n := s.Model(), s.Core(), s.Conflicts()
		refused := func(given []int, budget int) {
			t.Helper()
			if a, e := s.Solve(given, budget); a != api.Open || e != api.ErrArg {
				t.Errorf("Solve(%v, %d): %d, error %d", given, budget, a, e)
			}
			if !slices.Equal(s.Model(), model) || !slices.Equal(s.Core(), core) || s.Conflicts() != n {
				t.Fatalf("after answer %d, Solve(%v, %d) has an effect", a, given, budget)
			}
		}
		for _, lit := range []int{0, vars + 2, -vars - 2, 1<<32 + 1, math.MaxInt, math.MinInt, math.MinInt + 1} {
			refused([]int{lit}, 9)
			refused([]int{1, lit}, 9)
			refused([]int{lit, 1, -1}, 9)
		}
		for _, budget := range []int{-1, math.MinInt, api.MaxBudget + 1, math.MaxInt, 1 << 32} {
			refused(nil, budget)
			refused([]int{1}, budget)
		}
		refused(slices.Repeat([]int{1}, api.MaxLits+1), 9)
	}
}

// P13.3: how long there is a model, or a core, and the number of conflicts.
func TestResults(t *testing.T) {
	l, vars := pigeons(4)
	for i := range l {
		l[i] = append(l[i], vars+1)
	}
	s := of(t, vars+1, l)
	no, yes := []int{-vars - 1}, []int{vars + 1}
	question := func(given []int, budget int, want api.Answer, some bool) int {
		t.Helper()
		a := ask(t, s, l, given, budget)
		n := s.Conflicts()
		if a != want || some != (n > 0) || (len(s.Model()) > 0) != (a == api.Yes) || (len(s.Core()) > 0) != (a == api.No) {
			t.Fatalf("given %v: answer %d after %d conflicts, model %v, core %v", given, a, n, s.Model(), s.Core())
		}
		return n
	}
	gone := func(n int) {
		t.Helper()
		noResults(t, s)
		if s.Conflicts() != n {
			t.Errorf("%d conflicts have become %d", n, s.Conflicts())
		}
	}
	for range 2 {
		s = of(t, vars+1, l)
		gone(0)
		n := question(no, budget, api.No, true)
		fine(t, s.More(0))
		gone(n)
		question(yes, 9, api.Yes, false)
		fine(t, s.More(1))
		gone(0)
		question(yes, 9, api.Yes, false)
		fine(t, s.Add([]int{1, -1}))
		gone(0)
		question(append(no, 1, 2), 9, api.No, false)
		fine(t, s.Add([]int{1, vars + 1}))
		gone(0)
		question(append(no, -1), 9, api.No, false)
		question(yes, 9, api.Yes, false)
		if s.More(-1) != api.ErrArg || s.More(most) != api.ErrLimit || s.Add([]int{0}) != api.ErrArg || len(s.Model()) != vars+3 {
			t.Errorf("after errors, the model is %v", s.Model())
		}
		question(append(no, -1), 9, api.No, false)
		if s.More(-1) != api.ErrArg || s.More(most) != api.ErrLimit || s.Add([]int{0}) != api.ErrArg || len(s.Core()) != 2 {
			t.Errorf("after errors, the core is %v", s.Core())
		}
		s = of(t, vars+1, l)
		question(yes, 9, api.Yes, false)
		question(no, 3, api.Open, true)
		gone(3)
	}
}

// P13.3: cores.
func TestCore(t *testing.T) {
	for _, c := range []struct{ what, text, given, want string }{
		{"the chapter's", "-1 2; -2 3;", "1 -3", "1 -3"},
		{"in the order of what is given", "-1 2; -2 3;", "-3 1", "-3 1"},
		{"one that has nothing to do with it", "-1 2; -2 3;", "4 -3 5 1 -6", "-3 1"},
		{"in the order of the first occurrences", "-1 2; -2 3;", "1 -3 1 -3 -3", "1 -3"},
		{"a literal and its negation", "-1 2; -2 3;", "5 4 -4", "4 -4"},
		{"the negation first", "", "-4 5 -4 4 4", "-4 4"},
		{"a literal that is false for good", "-1; -2 3;", "2 1 3", "1"},
		{"the same, more than once", "-1; -2 3;", "1 2 1 1", "1"},
		{"a literal that is false for good, and its negation", "-1;", "-1 1", "1"},
		{"false for good by way of other clauses", "4; -4 5; -5 -6;", "1 6", "6"},
		{"what is true for good is not in it", "4; -4 -1 -2;", "4 1 2", "1 2"},
		{"three of them", "-1 -2 -3;", "1 2 3", "1 2 3"},
		{"no model at all", "1; -1;", "2 3", ""},
		{"the empty clause", ";", "2 3", ""},
		{"no model at all, by way of other clauses", "1; -1 2; -2 3; -3 -1;", "1 2 -4", ""},
	} {
		l := clauses(c.text)
		s := of(t, 6, l)
		for range 3 {
			if a := ask(t, s, l, lits(c.given), 0); a != api.No || !slices.Equal(s.Core(), lits(c.want)) {
				t.Errorf("%s: answer %d, core %v", c.what, a, s.Core())
			}
		}
		// The question leaves nothing behind but for those that have no answer any more.
		if a := ask(t, s, l, nil, 0); (a == api.No) != (c.want == "") {
			t.Errorf("%s: answer %d without given literals", c.what, a)
		}
	}
}

// P13.3: each clause is one of those that can't all hold, so that its guard is in each core.
func TestCoreOfAll(t *testing.T) {
	l, vars := pigeons(4)
	var guards, given []int
	for i := range l {
		guard := vars + 2*i + 1
		l[i] = append(l[i], -guard)
		guards = append(guards, guard)
		// The other ones have nothing to do with it.
		given = append(given, guard, -guard-1)
	}
	s := of(t, vars+2*len(l), l)
	for range 2 {
		if a := ask(t, s, l, given, budget); a != api.No {
			t.Fatalf("answer %d", a)
		}
		core := s.Core()
		for _, guard := range guards {
			if !slices.Contains(core, guard) {
				t.Errorf("%d is not in the core", guard)
			}
		}
		slices.Reverse(given)
	}
	for i, guard := range guards {
		left := slices.Delete(slices.Clone(guards), i, i+1)
		if a := ask(t, s, l, left, budget); a != api.Yes {
			t.Errorf("without %d: answer %d", guard, a)
		}
	}
}

// P13.2, P13.3: what propagation alone decides takes no conflict.
func TestPropagationAlone(t *testing.T) {
	roll := sample.Dice(131)
	no := 0
	for range 3000 {
		vars := 1 + roll(10)
		l, given := sample.SomeClauses(roll, vars, roll(25)), sample.SomeLits(roll, vars, roll(4))
		_, ok := clause.Must(l, given, vars)
		s := of(t, vars, l)
		a := ask(t, s, l, given, 0)
		if !ok && a != api.No {
			t.Fatalf("%v, given %v: answer %d", l, given, a)
		}
		if !ok {
			no++
		}
	}
	if no < 500 {
		t.Errorf("only %d times propagation decided", no)
	}
}

// Terms: Open comes exactly where the budget is spent, and one more conflict would be counted.
func TestBudget(t *testing.T) {
	roll := sample.Dice(132)
	open := 0
	try := func(vars int, l [][]int, given []int) {
		whole := of(t, vars, l)
		a := ask(t, whole, l, given, budget)
		n := whole.Conflicts()
		step := 1 + n/50
		for b := 0; b <= n+step; b += step {
			s := of(t, vars, l)
			got := ask(t, s, l, given, b)
			if b < n && got != api.Open || b >= n && (got != a || s.Conflicts() != n) {
				t.Fatalf("answer %d after %d conflicts of %d, where %d takes %d", got, s.Conflicts(), b, a, n)
			}
			if got == api.Open {
				open++
			}
			// What was open is answered with a greater budget.
			if got := ask(t, s, l, given, budget); got != a {
				t.Fatalf("answer %d, and then %d", a, got)
			}
		}
	}
	for n := 1; n < 6; n++ {
		l, vars := pigeons(n)
		try(vars, l, nil)
		try(vars, l[1:], []int{1})
	}
	for range 40 {
		vars := 10 + roll(40)
		l := triples(roll, vars, vars*(4+roll(2)), nil)
		try(vars, l, sample.SomeLits(roll, vars, roll(4)))
	}
	if open < 300 {
		t.Errorf("only %d times open", open)
	}
}

// Terms: the greatest budget is never spent.
func TestGreatestBudget(t *testing.T) {
	s := of(t, 1, nil)
	for _, n := range []int{api.MaxBudget - 1, api.MaxBudget, api.MaxBudget + 1} {
		s.conflicts = n
		if s.isSpent(api.MaxBudget) || s.isSpent(api.MaxBudget-1) != (n == api.MaxBudget-1) {
			t.Errorf("after %d conflicts: %t, %t", n, s.isSpent(api.MaxBudget), s.isSpent(api.MaxBudget-1))
		}
	}
}

// chances makes calls that look like chance, and holds the answers against the chapter's words.
type chances struct {
	t         *testing.T
	roll      func(int) int
	s         *Solver
	j         *judged
	answers   map[api.Answer]int
	cores     int
	conflicts int
}

func (c *chances) add() {
	l := sample.SomeLits(c.roll, c.j.vars, 3+c.roll(2))
	if c.roll(40) == 0 {
		l = l[:c.roll(3)]
	}
	fine(c.t, c.s.Add(l))
	c.j.add(l)
	noResults(c.t, c.s)
}

func (c *chances) more() {
	n := c.roll(3)
	fine(c.t, c.s.More(n))
	c.j.more(n)
	noResults(c.t, c.s)
}

func (c *chances) ask() {
	b := budget
	if c.roll(3) == 0 {
		b = c.roll(4)
	}
	// With few clauses that are kept, many are dropped.
	c.s.most = c.roll(4)
	given := sample.SomeLits(c.roll, c.j.vars, c.roll(4)*c.roll(2))
	c.answers[askJudged(c.t, c.s, c.j, given, b)]++
	c.cores += min(len(c.s.Core()), 1)
	c.conflicts += c.s.Conflicts()
}

// P13.1 to P13.4.
func TestAgainstWords(t *testing.T) {
	c := chances{t: t, roll: sample.Dice(13), answers: map[api.Answer]int{}}
	for range 1500 {
		vars := 1 + c.roll(12)
		c.s, c.j = of(t, vars, nil), newJudged(vars)
		for range (2 + c.roll(4)) * vars {
			c.add()
		}
		for hopeless := 0; hopeless < 4; {
			switch c.roll(8) {
			case 0:
				if c.j.vars < 12 {
					c.more()
				}
			case 1, 2, 3:
				c.add()
			default:
				c.ask()
			}
			if !c.j.hasModel(nil) {
				hopeless++
			}
			if c.s.Vars() != c.j.vars {
				t.Fatalf("%d variables, where %d is right", c.s.Vars(), c.j.vars)
			}
		}
	}
	if c.answers[api.Yes] < 2000 || c.answers[api.No] < 2000 || c.answers[api.Open] < 200 || c.cores < 2000 || c.conflicts < 3000 {
		t.Errorf("answers %v, %d cores, %d conflicts", c.answers, c.cores, c.conflicts)
	}
}

// P13.4: clauses that are the same but for numbers, signs and order have the same answer, through many searches that begin anew and many clauses that are dropped.
func TestMixed(t *testing.T) {
	roll := sample.Dice(134)
	answers := map[api.Answer]int{}
	for i := range 60 {
		vars := 40 + 2*i
		l := triples(roll, vars, vars*426/100, nil)
		s := of(t, vars, l)
		s.most = 20 * i
		a := ask(t, s, l, nil, budget)
		answers[a]++
		for range 2 {
			other := mixed(roll, vars, l)
			s := of(t, vars, other)
			if got := ask(t, s, other, nil, budget); got != a {
				t.Fatalf("%d variables: answers %d and %d", vars, a, got)
			}
		}
	}
	if answers[api.Yes] < 10 || answers[api.No] < 10 {
		t.Errorf("answers %v", answers)
	}
}

// P13.4: given literals are as good as clauses of one literal; a core is as good as all that is given.
func TestGivenAsClauses(t *testing.T) {
	roll := sample.Dice(135)
	answers := map[api.Answer]int{}
	for range 15 {
		vars := 60 + roll(60)
		l := triples(roll, vars, vars*4, nil)
		s := of(t, vars, l)
		s.most = 30
		for range 12 {
			given := sample.SomeLits(roll, vars, roll(12))
			a := ask(t, s, l, given, budget)
			answers[a]++
			more := slices.Concat(l, alone(given))
			if got := ask(t, of(t, vars, more), more, nil, budget); got != a {
				t.Fatalf("answers %d and %d", a, got)
			}
			if a == api.No {
				more := slices.Concat(l, alone(s.Core()))
				if got := ask(t, of(t, vars, more), more, nil, budget); got != api.No {
					t.Fatalf("answer %d for the core %v", got, s.Core())
				}
			}
		}
	}
	if answers[api.Yes] < 30 || answers[api.No] < 30 {
		t.Errorf("answers %v", answers)
	}
}

// P13.4: where a model was hidden, one is found.
func TestHiddenModel(t *testing.T) {
	roll := sample.Dice(136)
	for _, vars := range []int{50, 100, 150, 200, 300} {
		model := make([]bool, vars+1)
		for v := range model {
			model[v] = roll(2) == 0
		}
		l := triples(roll, vars, vars*5, model)
		if a := ask(t, of(t, vars, l), l, nil, budget); a != api.Yes {
			t.Errorf("%d variables: answer %d", vars, a)
		}
	}
}

// P13.4: what has no model, and takes thousands of conflicts; without any one of its clauses, it has.
func TestPigeons(t *testing.T) {
	for n := range 8 {
		l, vars := pigeons(n)
		s := of(t, vars, l)
		s.most = 100 * n
		if a := ask(t, s, l, nil, budget); a != api.No {
			t.Errorf("%d pigeons in %d holes: answer %d", n+1, n, a)
		}
		if n > 4 {
			continue
		}
		for i := range l {
			less := slices.Delete(slices.Clone(l), i, i+1)
			if a := ask(t, of(t, vars, less), less, nil, budget); a != api.Yes {
				t.Errorf("%d pigeons in %d holes without clause %d: answer %d", n+1, n, i, a)
			}
		}
	}
}

// P13.4: a parity that is told to be odd and even, by chains of variables through the same ones in another order.
func TestParities(t *testing.T) {
	roll := sample.Dice(137)
	const wide = 18
	var l [][]int
	free := wide
	// chain makes the parity of the first variables, in the order of a list, the next variable's.
	chain := func(order []int) int {
		last := order[0]
		for _, v := range order[1:] {
			free++
			l = append(l, []int{-free, last, v}, []int{-free, -last, -v}, []int{free, -last, v}, []int{free, last, -v})
			last = free
		}
		return last
	}
	order := make([]int, wide)
	for i := range order {
		j := roll(i + 1)
		order[i], order[j] = order[j], i+1
	}
	a := chain(order)
	for i := range order {
		order[i] = i + 1
	}
	b := chain(order)
	s := of(t, free, l)
	for _, c := range []struct {
		given []int
		want  api.Answer
	}{
		{[]int{a, b}, api.Yes},
		{[]int{a, -b}, api.No},
		{[]int{-a, -b}, api.Yes},
		{[]int{-a, b}, api.No},
		{[]int{-a, 1, 2, 3, -b}, api.Yes},
	} {
		got := ask(t, s, l, c.given, budget)
		if got != c.want || got == api.No && !slices.Equal(s.Core(), c.given) {
			t.Errorf("given %v: answer %d, core %v", c.given, got, s.Core())
		}
	}
}

// P13.4: reasons that go back very far.
func TestDeepReasons(t *testing.T) {
	const deep = 100000
	l, vars := pigeons(4)
	for i := range l {
		l[i] = append(l[i], -vars-deep)
	}
	for v := vars + 1; v < vars+deep; v++ {
		l = append(l, []int{-v, v + 1})
	}
	s := of(t, vars+deep, l)
	for range 2 {
		if a := ask(t, s, l, []int{vars + 1}, budget); a != api.No || !slices.Equal(s.Core(), []int{vars + 1}) {
			t.Errorf("answer %d, core %v", a, s.Core())
		}
	}
	if a := ask(t, s, l, []int{vars + deep - 1, 1, 2}, budget); a != api.No || s.Core()[0] != vars+deep-1 {
		t.Errorf("answer %d, core %v", a, s.Core())
	}
	// Without the first reason, whatever the pigeons do is a model.
	roll := sample.Dice(139)
	for range 100 {
		var given []int
		for v := 1; v <= vars; v++ {
			given = append(given, v*(1-2*roll(2)))
		}
		if a := ask(t, s, l, given, 0); a != api.Yes {
			t.Fatalf("given %v: answer %d", given, a)
		}
	}
}

// P13.4: as many variables and as many clauses as there may be.
func TestLongChain(t *testing.T) {
	s := of(t, most, nil)
	for v := 1; v < api.MaxClauses; v++ {
		if e := s.Add([]int{-v, v + 1}); e != api.OK {
			t.Fatalf("clause %d: error %d", v, e)
		}
	}
	fine(t, s.Add([]int{-api.MaxClauses, -most, 2}))
	if a, e := s.Solve([]int{most, 1, -api.MaxClauses}, 0); a != api.No || e != api.OK || !slices.Equal(s.Core(), []int{1, -api.MaxClauses}) {
		t.Errorf("answer %d, error %d, core %v", a, e, s.Core())
	}
	if a, e := s.Solve([]int{-most, 1}, 0); a != api.Yes || e != api.OK {
		t.Fatalf("answer %d, error %d", a, e)
	}
	model := s.Model()
	if len(model) != most+1 || model[0] || model[most] || slices.Contains(model[1:api.MaxClauses+1], false) {
		t.Errorf("a model of %d variables", len(model)-1)
	}
	if e := s.Add(nil); e != api.ErrLimit {
		t.Errorf("one clause more: error %d", e)
	}
}

// Rule 5: arguments and their spare capacity stay as they are, and the solver does not keep them.
func TestKeepsNoArgument(t *testing.T) {
	s := of(t, 4, nil)
	l := clauses("3 -1 3; -2 2 1; -3 2 -4; 4 1; -1;")
	for _, was := range l {
		c := sample.Roomy(was)
		fine(t, s.Add(c))
		if !sample.Untouched(c, was) {
			t.Errorf("a clause became %v of %v", c, c[:cap(c)])
		}
		clear(c[:cap(c)])
	}
	given := sample.Roomy([]int{3, -2, 3})
	for range 2 {
		if a := ask(t, s, l, given, 9); a != api.No || !sample.Untouched(given, []int{3, -2, 3}) {
			t.Errorf("answer %d; %v was given, which became %v", a, given, given[:cap(given)])
		}
	}
	clear(given)
	if !slices.Equal(s.Core(), []int{3, -2}) {
		t.Errorf("the core is %v", s.Core())
	}
	if a := ask(t, s, l, []int{-3}, 9); a != api.Yes {
		t.Errorf("answer %d", a)
	}
}

// Rule 5: results are new memory.
func TestSharesNothing(t *testing.T) {
	l := clauses("-1 2; -2 3;")
	s := of(t, 3, l)
	ask(t, s, l, []int{1}, 9)
	first, second := s.Model(), s.Model()
	clear(first[:cap(first)])
	if m := []bool{false, true, true, true}; !slices.Equal(second, m) || !slices.Equal(s.Model(), m) {
		t.Errorf("the model is %v, %v", second, s.Model())
	}
	ask(t, s, l, []int{-3}, 9)
	if !slices.Equal(second, []bool{false, true, true, true}) {
		t.Errorf("another question changed a model: %v", second)
	}
	ask(t, s, l, []int{1, -3}, 9)
	core, again := s.Core(), s.Core()
	clear(core[:cap(core)])
	if c := []int{1, -3}; !slices.Equal(again, c) || !slices.Equal(s.Core(), c) {
		t.Errorf("the core is %v, %v", again, s.Core())
	}
	ask(t, s, l, []int{-3, 2}, 9)
	if !slices.Equal(again, []int{1, -3}) {
		t.Errorf("another question changed a core: %v", again)
	}
}

// Rule 8: what a solver answers hangs on its calls alone; solvers do not share what they know.
func TestSameCalls(t *testing.T) {
	const many = 3
	var solvers [many]*Solver
	for i := range solvers {
		solvers[i] = of(t, 60, nil)
	}
	roll := sample.Dice(138)
	for range 30 {
		more, given := triples(roll, 60, 9, nil), sample.SomeLits(roll, 60, roll(5))
		var answers [many]api.Answer
		for i, s := range solvers {
			addAll(t, s, more)
			answers[i], _ = s.Solve(given, budget)
			p := solvers[0]
			if answers[i] != answers[0] || s.Conflicts() != p.Conflicts() || !slices.Equal(s.Model(), p.Model()) || !slices.Equal(s.Core(), p.Core()) {
				t.Fatalf("answers %v, after %d and %d conflicts", answers[:i+1], p.Conflicts(), s.Conflicts())
			}
		}
	}
}

// The chapter's examples.
func TestExamples(t *testing.T) {
	l := clauses("-1 2; -2 3;")
	s := of(t, 3, l)
	if a := ask(t, s, l, []int{1}, 100); a != api.Yes || !slices.Equal(s.Model(), []bool{false, true, true, true}) {
		t.Errorf("answer %d, model %v", a, s.Model())
	}
	if a := ask(t, s, l, []int{1, -3}, 100); a != api.No || !slices.Equal(s.Core(), []int{1, -3}) {
		t.Errorf("answer %d, core %v", a, s.Core())
	}
	fine(t, s.Add(nil))
	if a := ask(t, s, append(l, nil), nil, 100); a != api.No || len(s.Core()) > 0 {
		t.Errorf("answer %d, core %v", a, s.Core())
	}
}
