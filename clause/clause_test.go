package clause

import (
	"slices"
	"testing"

	"inquest/api"
	"inquest/sample"
)

const most = api.MaxVars * api.MaxFrames

var (
	lits        = sample.Lits
	clauses     = sample.Clauses
	noLits      = sample.NoLits()
	noNumbers   = sample.NoVars()
	someLits    = sample.SomeLits
	someClauses = sample.SomeClauses
	roomy       = sample.Roomy[int]
	same        = sample.Untouched[int]
)

// P11.1: May.
func TestMay(t *testing.T) {
	for _, c := range []struct {
		text string
		vars int
		want bool
	}{
		{"", 0, true},
		{"", 3, true},
		{";", 0, true},
		{";;", 3, true},
		{"1;", 0, false},
		{"-1;", 0, false},
		{"1;", 1, true},
		{"-1;", 1, true},
		{"2;", 1, false},
		{"-2;", 1, false},
		{"3 -1 3;", 3, true},
		{"3 -1 3;", 2, false},
		{"-3 1;", 2, false},
		{"1 -1;", 1, true},
		{"1; -2 3; 2 -2 1;", 3, true},
		{"4; -2 3; 2 -2 1;", 3, false},
		{"1; -2 -4; 2 -2 1;", 3, false},
		{"1; -2 3; 2 4 1;", 3, false},
		{"1; -2 3; 2 1 -4;", 3, false},
		{";;0;", 3, false},
	} {
		if got := May(clauses(c.text), c.vars); got != c.want {
			t.Errorf("May(%q, %d) = %t", c.text, c.vars, got)
		}
	}
	for _, lit := range noLits {
		for i := range 3 {
			c := []int{1, -2, 3}
			c[i] = lit
			if May([][]int{c}, 3) || May([][]int{{1}, c, {2}}, 3) {
				t.Errorf("%v is taken as a clause", c)
			}
		}
	}
}

// P11.1: May, of numbers of variables.
func TestMayVars(t *testing.T) {
	for _, vars := range noNumbers {
		if May(nil, vars) || May(clauses(";"), vars) || May(clauses("1;"), vars) {
			t.Errorf("%d is taken as a number of variables", vars)
		}
	}
	for _, vars := range []int{most - 1, most} {
		if !May(nil, vars) || !May([][]int{{vars, -vars}, {1 - vars, 1}}, vars) {
			t.Errorf("%d is not taken as a number of variables", vars)
		}
		if May([][]int{{vars + 1}}, vars) || May([][]int{{-1 - vars}}, vars) {
			t.Errorf("May takes a literal above %d", vars)
		}
	}
}

// P11.1, P11.2: as many clauses, and as many literals, as there may be, and one more.
func TestMost(t *testing.T) {
	one := []int{-1}
	l := slices.Repeat([][]int{one}, api.MaxClauses+1)
	if !May(l[1:], 1) || May(l, 1) {
		t.Errorf("May of as many clauses as there may be, and one more: %t, %t", May(l[1:], 1), May(l, 1))
	}
	if must, ok := Must(l[1:], nil, 1); !slices.Equal(must, one) || !ok {
		t.Errorf("Must = %v, %t", must, ok)
	}
	if must, ok := Must(l, nil, 1); len(must) > 0 || ok {
		t.Errorf("Must of too many clauses = %v, %t", must, ok)
	}
	c := slices.Repeat([]int{2, 1}, api.MaxLits/2)
	long := append(slices.Clone(c), 2)
	if !May([][]int{{1}, c}, 2) || May([][]int{{1}, long}, 2) {
		t.Errorf("May of as many literals as there may be, and one more: %t, %t", May([][]int{c}, 2), May([][]int{long}, 2))
	}
	if got, talk, e := Order(c, 2); !slices.Equal(got, []int{1, 2}) || talk || e != api.OK {
		t.Errorf("Order = %v, %t, %d", got, talk, e)
	}
	if got, talk, e := Order(long, 2); len(got) > 0 || talk || e != api.ErrArg {
		t.Errorf("Order of too many literals = %v, %t, %d", got, talk, e)
	}
	if must, ok := Must([][]int{c, {-2}}, c[:1:1], 2); len(must) > 0 || ok {
		t.Errorf("Must of a conflict = %v, %t", must, ok)
	}
	if must, ok := Must([][]int{c, {-2}}, nil, 2); !slices.Equal(must, []int{1, -2}) || !ok {
		t.Errorf("Must = %v, %t", must, ok)
	}
	if must, ok := Must([][]int{long, {-2}}, nil, 2); len(must) > 0 || ok {
		t.Errorf("Must of too many literals = %v, %t", must, ok)
	}
	if must, ok := Must(nil, c, 2); !slices.Equal(must, []int{1, 2}) || !ok {
		t.Errorf("Must of given literals = %v, %t", must, ok)
	}
	if must, ok := Must(nil, long, 2); len(must) > 0 || ok {
		t.Errorf("Must of too many given literals = %v, %t", must, ok)
	}
}

// P11.1: Order.
func TestOrder(t *testing.T) {
	for _, c := range []struct {
		text, want string
		talk       bool
	}{
		{"", "", false},
		{"1", "1", false},
		{"-3", "-3", false},
		{"1 2 3", "1 2 3", false},
		{"3 2 1", "1 2 3", false},
		{"-3 -2 -1", "-1 -2 -3", false},
		{"-1 2 -3", "-1 2 -3", false},
		{"2 -9 -1 8", "-1 2 8 -9", false},
		{"3 -1 3", "-1 3", false},
		{"2 2 2", "2", false},
		{"-2 3 -2 1 3 1 -2", "1 -2 3", false},
		{"9 -5 8 -4 7 -3 6 -2 5 -4 4", "", true},
		{"9 -5 8 -4 7 -3 6 -2 -5 1 9 10 -4", "1 -2 -3 -4 -5 6 7 8 9 10", false},
		{"2 -2", "", true},
		{"-2 2", "", true},
		{"2 -2 2 2", "", true},
		{"2 2 -2", "", true},
		{"1 2 3 -1", "", true},
		{"-3 1 2 3", "", true},
		{"1 3 -3 2", "", true},
	} {
		if got, talk, e := Order(lits(c.text), 10); !slices.Equal(got, lits(c.want)) || talk != c.talk || e != api.OK {
			t.Errorf("Order(%s) = %v, %t, %d", c.text, got, talk, e)
		}
	}
	if got, talk, e := Order(nil, 0); len(got) > 0 || talk || e != api.OK {
		t.Errorf("Order(none, 0) = %v, %t, %d", got, talk, e)
	}
	if got, talk, e := Order([]int{-most, 1, most - 1}, most); !slices.Equal(got, []int{1, most - 1, -most}) || talk || e != api.OK {
		t.Errorf("Order of the last variables = %v, %t, %d", got, talk, e)
	}
}

// P11.1: Order of what is no clause, even if it would be a tautology otherwise.
func TestOrderRefused(t *testing.T) {
	refused := func(l []int, vars int) {
		t.Helper()
		if got, talk, e := Order(l, vars); len(got) > 0 || talk || e != api.ErrArg {
			t.Errorf("Order(%v, %d) = %v, %t, %d", l, vars, got, talk, e)
		}
	}
	for _, lit := range noLits {
		refused([]int{lit}, 3)
		refused([]int{lit, 2, -2}, 3)
		refused([]int{2, lit, -2}, 3)
		refused([]int{2, 3, lit}, 3)
		refused([]int{lit, -lit}, 3)
	}
	for _, vars := range noNumbers {
		refused(nil, vars)
		refused([]int{1}, vars)
		refused([]int{1, -1}, vars)
	}
	refused([]int{1}, 0)
	refused([]int{most + 1}, most)
}

// P11.1: Holds. The model is told by a digit for each variable, from variable 0 on.
func TestHolds(t *testing.T) {
	for _, c := range []struct {
		text, model string
		want        bool
	}{
		{"", "", true},
		{"", "01", true},
		{";", "", false},
		{";", "0111", false},
		{"1;", "01", true},
		{"1;", "00", false},
		{"-1;", "01", false},
		{"-1;", "00", true},
		{"1 2;", "000", false},
		{"1 2;", "001", true},
		{"1 2;", "010", true},
		{"-1 -2;", "011", false},
		{"-1 -2;", "010", true},
		{"3 -1 3;", "0100", false},
		{"3 -1 3;", "0101", true},
		{"2 -2;", "001", true},
		{"2 -2;", "000", true},
		{"1; 2; -3;", "0110", true},
		{"1; 2; -3;", "0010", false},
		{"1; 2; -3;", "0100", false},
		{"1; 2; -3;", "0111", false},
		{"1; ; 2;", "011", false},
		// Variable 0 has no literal.
		{"1;", "10", false},
		{"-1;", "11", false},
		{"1;", "11", true},
		{"0;", "0", false},
		{"0;", "1", false},
		{"0 1;", "11", true},
		// Beyond the model, a literal is as false as its negation.
		{"1;", "", false},
		{"-1;", "", false},
		{"1;", "1", false},
		{"-1;", "0", false},
		{"2;", "01", false},
		{"-2;", "01", false},
		{"2 -2;", "01", false},
		{"2 -2 1;", "01", true},
		{"1; 2;", "01", false},
		{"1; -2;", "01", false},
		{"-4194305 1;", "01", true},
		{"9223372036854775807 -1;", "01", false},
		{"-9223372036854775807;", "01", false},
		{"-9223372036854775808;", "01", false},
		{"-9223372036854775808 1;", "01", true},
	} {
		model := make([]bool, len(c.model))
		for v := range model {
			model[v] = c.model[v] == '1'
		}
		if got := Holds(clauses(c.text), model); got != c.want {
			t.Errorf("Holds(%s, %s) = %t", c.text, c.model, got)
		}
	}
	if Holds([][]int{{1}}, nil) || !Holds(nil, nil) {
		t.Errorf("Holds without a model: %t, %t", Holds([][]int{{1}}, nil), Holds(nil, nil))
	}
}

// P11.1: Holds sets no limits.
func TestHoldsOfMany(t *testing.T) {
	l := slices.Repeat([][]int{{-1, 2}}, api.MaxClauses+1)
	l = append(l, slices.Repeat([]int{-1, -2}, api.MaxLits), []int{most + 1})
	model := make([]bool, most+2)
	model[2], model[most+1] = true, true
	if !Holds(l, model) {
		t.Error("Holds = false")
	}
	model[most+1] = false
	if Holds(l, model) {
		t.Error("Holds = true, and the last clause does not")
	}
	model[most+1], model[1], model[2] = true, true, false
	if Holds(l, model) {
		t.Error("Holds = true, and the first clause does not")
	}
}

// P11.2: Must.
func TestMust(t *testing.T) {
	for _, c := range []struct{ what, text, given, want string }{
		{"nothing", "", "", ""},
		{"given literals alone", "", "3 -1", "-1 3"},
		{"the same literal twice", "", "-2 -2", "-2"},
		{"given out of order", "", "9 -8 7 -1", "-1 7 -8 9"},
		{"a clause of one", "-2;", "", "-2"},
		{"a clause of one that is given", "-2;", "-2", "-2"},
		{"one literal, twice in its clause", "3 3;", "", "3"},
		{"clauses of one", "5; -2; 3;", "", "-2 3 5"},
		{"a chain", "-1 2; -2 3; -3 4;", "1", "1 2 3 4"},
		{"a chain from its end", "-3 4; -2 3; -1 2;", "1", "1 2 3 4"},
		{"a chain backward", "-1 2; -2 3; -3 4;", "-4", "-1 -2 -3 -4"},
		{"a chain from its middle", "-1 2; -2 3; -3 4;", "2", "2 3 4"},
		{"a chain from a clause", "-1 2; -2 3; 1;", "", "1 2 3"},
		{"the other way round", "-1 2; -2 3;", "-1", "-1"},
		{"two are left", "1 2 3;", "-1", "-1"},
		{"one is left, the first one", "1 2 3;", "-2 -3", "1 -2 -3"},
		{"one is left, the one between", "1 2 3;", "-1 -3", "-1 2 -3"},
		{"one is left, the last one", "1 2 3;", "-1 -2", "-1 -2 3"},
		{"one is left, and negated", "-3 -2 -1;", "1 3", "1 -2 3"},
		{"one is true", "1 2 3;", "-1 2", "-1 2"},
		{"one is true, the others are false", "1 2 3;", "-1 2 -3", "-1 2 -3"},
		{"it becomes true later", "1 2 3; -4 2;", "-1 4", "-1 2 4"},
		{"literals that occur twice", "2 1 2 1;", "-1", "-1 2"},
		{"the one that is left occurs often", "3 1 3 2 3 1;", "-1 -2", "-1 -2 3"},
		{"two are left, each often", "3 1 3 2 3 2;", "-1", "-1"},
		{"a tautology", "2 -2;", "", ""},
		{"a tautology and a false literal", "1 2 -2;", "-1", "-1"},
		{"a tautology and its literal", "1 2 -2;", "-1 2", "-1 2"},
		{"a tautology and its negation", "1 -2 2 1;", "-1 -2", "-1 -2"},
		{"a clause without order", "3 -1 2;", "1 -2", "1 -2 3"},
		{"one literal from two clauses", "-1 2; -3 2;", "1 3", "1 2 3"},
		{"two ways to go on", "-1 2; -1 3; -2 -3 4; -4 5 6; -6 -2;", "1", "1 2 3 4 5 -6"},
		{"all that is false comes late", "-5 -4 -3 -2 6; -1 5; -1 4; -1 3; -1 2;", "1", "1 2 3 4 5 6"},
		{"the same clause thrice", "-1 2; -1 2; 2 -1;", "1", "1 2"},
		{"a model is all there is", "1 2; 1 -2; -1 2;", "", ""},
		{"no model, and yet no conflict", "1 2; 1 -2; -1 2; -1 -2;", "", ""},
		{"the last variable", "-1 -10;", "10", "-1 10"},
	} {
		if got, ok := Must(clauses(c.text), lits(c.given), 10); !slices.Equal(got, lits(c.want)) || !ok {
			t.Errorf("%s: Must(%s given %s) = %v, %t", c.what, c.text, c.given, got, ok)
		}
	}
	if got, ok := Must(nil, nil, 0); len(got) > 0 || !ok {
		t.Errorf("no variable: Must = %v, %t", got, ok)
	}
}

// P11.2: Must of a conflict.
func TestMustConflict(t *testing.T) {
	for _, c := range []struct{ what, text, given string }{
		{"a literal and its negation are given", "", "1 -1"},
		{"they are given apart", "", "-2 3 1 2"},
		{"an empty clause", ";", ""},
		{"an empty clause among others", "1; 2 3; ; 4;", "5"},
		{"two clauses of one", "1; -1;", ""},
		{"the negation of a clause of one is given", "-3;", "3"},
		{"the negation of a literal that is there twice", "3 3;", "-3"},
		{"all literals of a clause are given false", "1 -2 3;", "-1 2 -3"},
		{"the last clause of several", "1 2; 1 3; 2 3;", "-3 1 -2"},
		{"a chain to the negation", "-1 2; -2 3; -3 -1;", "1"},
		{"a chain to another one given", "-1 2; -2 3;", "1 -3"},
		{"all literals become false", "-1 2; -1 3; -2 -3;", "1"},
		{"all become false at once", "-1 2; -1 3; -1 4; -2 -3 -4 -1;", "1"},
		{"from both sides", "-1 2; -3 -2;", "3 1"},
		{"without anything given", "1; -1 2; -2 3; -3 -2;", ""},
		{"beside a tautology", "1 -1; 2; 3 -3 2; -2;", ""},
		{"given, and not a matter of the clauses", "1 2;", "9 -9"},
	} {
		if got, ok := Must(clauses(c.text), lits(c.given), 10); len(got) > 0 || ok {
			t.Errorf("%s: Must(%s given %s) = %v, %t", c.what, c.text, c.given, got, ok)
		}
	}
	if got, ok := Must([][]int{nil}, nil, 0); len(got) > 0 || ok {
		t.Errorf("no variable, an empty clause: Must = %v, %t", got, ok)
	}
}

// P11.2: Must of clauses, or given literals, that are not valid, though nothing would be done with them.
func TestMustRefused(t *testing.T) {
	refused := func(l [][]int, given []int, vars int) {
		t.Helper()
		if got, ok := Must(l, given, vars); len(got) > 0 || ok {
			t.Errorf("Must(%v, %v, %d) = %v, %t", l, given, vars, got, ok)
		}
	}
	for _, lit := range noLits {
		refused([][]int{{lit}}, nil, 3)
		refused([][]int{{1, 2}, {3, lit}}, nil, 3)
		refused([][]int{{1, -1, lit}}, []int{2}, 3)
		refused(nil, []int{lit}, 3)
		refused([][]int{{1, 2}}, []int{3, lit}, 3)
		refused([][]int{{1, 2}}, []int{lit, 3}, 3)
	}
	for _, vars := range noNumbers {
		refused(nil, nil, vars)
		refused([][]int{{1}}, nil, vars)
		refused(nil, []int{1}, vars)
	}
	refused([][]int{{1}}, nil, 0)
	refused(nil, []int{-1}, 0)
}

// judgedOrder goes through the variables, straight by the chapter's words.
func judgedOrder(c []int, vars int) (clause []int, talk bool) {
	for v := 1; v <= vars; v++ {
		is, not := slices.Contains(c, v), slices.Contains(c, -v)
		if is && not {
			return nil, true
		}
		if is {
			clause = append(clause, v)
		}
		if not {
			clause = append(clause, -v)
		}
	}
	return clause, false
}

// judgedMust looks at each clause over and over until nothing comes in addition.
func judgedMust(l [][]int, given []int, vars int) (must []int, ok bool) {
	derived := make(map[int]int)
	for _, lit := range given {
		derived[lit] = 1
	}
	for was := -1; was < len(derived); {
		was = len(derived)
		for _, c := range l {
			c, talk := judgedOrder(c, vars)
			var left []int
			for _, lit := range c {
				if derived[-lit] == 0 {
					left = append(left, lit)
				}
			}
			if !talk && len(left) == 0 {
				return nil, false
			}
			if !talk && len(left) == 1 {
				derived[left[0]] = 1
			}
		}
	}
	for v := 1; v <= vars; v++ {
		if derived[v]+derived[-v] == 2 {
			return nil, false
		}
		for _, lit := range []int{v, -v} {
			if derived[lit] == 1 {
				must = append(must, lit)
			}
		}
	}
	return must, true
}

// P11.1, P11.2: Order and Must do what the chapter's words say, on clauses of all kinds.
func TestAgainstWords(t *testing.T) {
	roll := sample.Dice(1)
	conflicts, long := 0, 0
	for range 30000 {
		vars := 1 + roll(12)
		l, given := someClauses(roll, vars, roll(16)), someLits(roll, vars, roll(4))
		for _, c := range l {
			want, wantTalk := judgedOrder(c, vars)
			if got, talk, e := Order(c, vars); !slices.Equal(got, want) || talk != wantTalk || e != api.OK {
				t.Fatalf("Order(%v, %d) = %v, %t, %d", c, vars, got, talk, e)
			}
		}
		want, wantOK := judgedMust(l, given, vars)
		got, ok := Must(l, given, vars)
		if !slices.Equal(got, want) || ok != wantOK {
			t.Fatalf("Must(%v, %v, %d) = %v, %t, not %v, %t", l, given, vars, got, ok, want, wantOK)
		}
		if !ok {
			conflicts++
		}
		if len(got) > len(given)+3 {
			long++
		}
	}
	if conflicts < 3000 || conflicts > 27000 || long < 1000 {
		t.Errorf("%d conflicts, and %d times several literals were derived", conflicts, long)
	}
}

// P11.2: neither the order of the clauses, nor that of literals, nor that of the given ones counts.
func TestMustOfAnyOrder(t *testing.T) {
	roll := sample.Dice(2)
	mix := func(many int, swap func(i, j int)) {
		for i := range many {
			swap(i, roll(many))
		}
	}
	for range 3000 {
		vars := 1 + roll(12)
		l, given := someClauses(roll, vars, roll(16)), someLits(roll, vars, roll(4))
		want, wantOK := Must(l, given, vars)
		for range 4 {
			mix(len(l), func(i, j int) { l[i], l[j] = l[j], l[i] })
			mix(len(given), func(i, j int) { given[i], given[j] = given[j], given[i] })
			for _, c := range l {
				mix(len(c), func(i, j int) { c[i], c[j] = c[j], c[i] })
			}
			if got, ok := Must(l, given, vars); !slices.Equal(got, want) || ok != wantOK {
				t.Fatalf("Must(%v, %v, %d) = %v, %t, not %v, %t", l, given, vars, got, ok, want, wantOK)
			}
		}
	}
}

// models answers all models of clauses.
func models(l [][]int, vars int) [][]bool {
	var all [][]bool
	for bits := range 1 << vars {
		model := make([]bool, 1+vars)
		for v := 1; v <= vars; v++ {
			model[v] = bits>>(v-1)&1 == 1
		}
		if Holds(l, model) {
			all = append(all, model)
		}
	}
	return all
}

// alone answers a clause for each literal.
func alone(l []int) [][]int {
	var out [][]int
	for _, lit := range l {
		out = append(out, []int{lit})
	}
	return out
}

// P11.3: in every model of the clauses and the given literals, all derived literals are true; if there is a conflict, there is no model. P11.1: an ordered clause holds where the clause does, a tautology everywhere.
func TestConsequences(t *testing.T) {
	roll := sample.Dice(3)
	many := 0
	for range 3000 {
		vars := 1 + roll(7)
		l, given := someClauses(roll, vars, roll(10)), someLits(roll, vars, roll(3))
		must, ok := Must(l, given, vars)
		all := models(slices.Concat(l, alone(given)), vars)
		if !ok && len(all) > 0 {
			t.Fatalf("Must(%v, %v, %d): a conflict, and %v is a model", l, given, vars, all[0])
		}
		for _, model := range all {
			if !Holds(alone(must), model) {
				t.Fatalf("Must(%v, %v, %d) = %v: not so in the model %v", l, given, vars, must, model)
			}
		}
		if len(must) > len(given) {
			many += len(all)
		}
		for _, c := range l {
			ordered, talk, _ := Order(c, vars)
			if a, b := models([][]int{c}, vars), models([][]int{ordered}, vars); talk && len(a) < 1<<vars || !talk && !slices.EqualFunc(a, b, slices.Equal) {
				t.Fatalf("Order(%v, %d) = %v, %t: it has other models", c, vars, ordered, talk)
			}
		}
	}
	if many < 1000 {
		t.Errorf("only %d models", many)
	}
}

// Rule 5: arguments and their spare capacity stay as they are.
func TestChangesNoArgument(t *testing.T) {
	was := clauses("3 -1 3; -2 2 1; -3 2 -4;")
	l := append(make([][]int, 0, 9), was...)
	for i, c := range l {
		l[i] = roomy(c)
	}
	given, model := roomy([]int{4, 1, 4}), []bool{true, true, false, true, true}
	May(l, 4)
	Holds(l, model)
	Must(l, given, 4)
	Must(append(l, nil), given, 4)
	for i, c := range l {
		Order(c, 4)
		if !same(c, was[i]) {
			t.Errorf("clause %d became %v of %v", i, c, c[:cap(c)])
		}
	}
	if !same(given, []int{4, 1, 4}) {
		t.Errorf("the given literals became %v of %v", given, given[:cap(given)])
	}
	if !slices.Equal(model, []bool{true, true, false, true, true}) {
		t.Errorf("the model became %v", model)
	}
	if slices.ContainsFunc(l[3:cap(l)], func(c []int) bool { return c != nil }) {
		t.Errorf("behind the clauses: %v", l[3:cap(l)])
	}
}

// Rule 5: results are new memory.
func TestSharesNothing(t *testing.T) {
	spoil := func(l []int) {
		l = l[:cap(l)]
		for i := range l {
			l[i] = 9
		}
	}
	c, given := lits("1 -2 3"), lits("-1 2")
	l := [][]int{c, c}
	for range 3 {
		first, _, _ := Order(c, 3)
		second, _, _ := Order(c, 3)
		spoil(first)
		if !slices.Equal(second, []int{1, -2, 3}) {
			t.Errorf("Order = %v", second)
		}
		must, _ := Must(l, given, 3)
		again, _ := Must(l, given, 3)
		spoil(must)
		if !slices.Equal(again, []int{-1, 2, 3}) {
			t.Errorf("Must = %v", again)
		}
		only, _ := Must(nil, given, 3)
		spoil(only)
		if !slices.Equal(c, []int{1, -2, 3}) || !slices.Equal(given, []int{-1, 2}) {
			t.Fatalf("a change to a result changed an argument: %v, %v", c, given)
		}
	}
}

// chain answers as many clauses as there may be: each makes a variable follow from the one ahead of it. Those of the last variables come first.
func chain() [][]int {
	l := make([][]int, api.MaxClauses)
	for i := range l {
		v := len(l) - i
		l[i] = []int{v + 1, -v}
	}
	return l
}

// P11.2: as many clauses as there may be, one after the other.
func TestLongChain(t *testing.T) {
	l := chain()
	must, ok := Must(l, []int{1}, most)
	if len(must) != api.MaxClauses+1 || !ok {
		t.Fatalf("Must: %d literals, %t", len(must), ok)
	}
	for i, lit := range must {
		if lit != i+1 {
			t.Fatalf("literal %d is %d", i, lit)
		}
	}
	must, ok = Must(l, []int{-1 - api.MaxClauses, most}, most)
	if len(must) != api.MaxClauses+2 || !ok || must[0] != -1 || must[api.MaxClauses] != -1-api.MaxClauses || must[api.MaxClauses+1] != most {
		t.Fatalf("Must: %d literals, %t", len(must), ok)
	}
	if must, ok := Must(l, []int{1, -1 - api.MaxClauses}, most); len(must) > 0 || ok {
		t.Errorf("Must: %d literals, %t", len(must), ok)
	}
	l[0] = []int{-1, -api.MaxClauses}
	if must, ok := Must(l, []int{1}, most); len(must) > 0 || ok {
		t.Errorf("Must: %d literals, %t", len(must), ok)
	}
}

// P11.2: one literal makes very many others true, all of which wait at once; each of several clauses needs many of these to leave one.
func TestWideFan(t *testing.T) {
	const wide = 1 << 9
	var l [][]int
	for i := range wide {
		for j := range wide {
			l = append(l, []int{-1, 2 + i*wide + j})
		}
	}
	for i := range wide {
		c := []int{2 + wide*wide + i}
		for j := range wide {
			c = append(c, -2-i*wide-j)
		}
		l = append(l, c)
	}
	vars := 1 + wide*wide + wide
	must, ok := Must(l, []int{1}, vars)
	if len(must) != vars || !ok {
		t.Fatalf("Must: %d of %d literals, %t", len(must), vars, ok)
	}
	if must, ok := Must(l, []int{-vars, 1}, vars); len(must) > 0 || ok {
		t.Errorf("Must: %d literals, %t", len(must), ok)
	}
	if must, ok := Must(l, nil, vars); len(must) > 0 || !ok {
		t.Errorf("Must: %d literals, %t", len(must), ok)
	}
}

// P11.2: clauses of as many literals as there may be, each of which leaves one.
func TestLongClauses(t *testing.T) {
	var l [][]int
	for i := range 1000 {
		c := []int{api.MaxLits + i}
		for v := 1; v < api.MaxLits; v++ {
			c = append(c, -v-i)
		}
		l = append(l, c)
	}
	slices.Reverse(l)
	var given []int
	for v := 1; v < api.MaxLits; v++ {
		given = append(given, v)
	}
	vars := api.MaxLits + 999
	if must, ok := Must(l, given, vars); len(must) != vars || !ok || must[0] != 1 || must[vars-1] != vars {
		t.Errorf("Must: %d of %d literals, %t", len(must), vars, ok)
	}
	if must, ok := Must(l, given[1:], vars); !slices.Equal(must, given[1:]) || !ok {
		t.Errorf("Must: %d literals, %t", len(must), ok)
	}
}

// P11.2: all variables that there may be.
func TestMostVars(t *testing.T) {
	l := [][]int{{-most, most - 1}, {1 - most, -1}, {most}}
	if must, ok := Must(l, nil, most); !slices.Equal(must, []int{-1, most - 1, most}) || !ok {
		t.Errorf("Must = %v, %t", must, ok)
	}
	if must, ok := Must(l, []int{1}, most); len(must) > 0 || ok {
		t.Errorf("Must = %v, %t", must, ok)
	}
}

// The chapter's examples.
func TestExamples(t *testing.T) {
	if got, talk, e := Order([]int{3, -1, 3}, 3); !slices.Equal(got, []int{-1, 3}) || talk || e != api.OK {
		t.Errorf("Order = %v, %t, %d", got, talk, e)
	}
	if got, talk, e := Order([]int{2, -2}, 3); len(got) > 0 || !talk || e != api.OK {
		t.Errorf("Order = %v, %t, %d", got, talk, e)
	}
	if got, talk, e := Order([]int{4}, 3); len(got) > 0 || talk || e != api.ErrArg {
		t.Errorf("Order = %v, %t, %d", got, talk, e)
	}
	if got, ok := Must([][]int{{-1, 2}, {-2, 3}}, []int{1}, 3); !slices.Equal(got, []int{1, 2, 3}) || !ok {
		t.Errorf("Must = %v, %t", got, ok)
	}
	if got, ok := Must([][]int{{1}, {-1}}, nil, 3); len(got) > 0 || ok {
		t.Errorf("Must = %v, %t", got, ok)
	}
}
