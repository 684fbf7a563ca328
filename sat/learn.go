package sat

// What is known of a variable while a conflict is traced back.
const (
	unseen = iota
	seen   // it is one of those that led to the conflict
	led    // those that are seen lead to it
	free   // they do not, as far as was looked
)

// mostSteps bounds how deep leads calls itself.
const mostSteps = 400

// inquiry is what a conflict is traced back with. Between conflicts, no variable is marked.
type inquiry struct {
	marks  []uint8 // by variable
	marked []int
	lesson []literal
	round  int
	rounds []int // by level: the last round in which it occurred
}

func (q *inquiry) grow(vars int) {
	q.marks = longer(q.marks, vars+1)
	// Each variable may have a level, behind the root and what is given.
	q.rounds = longer(q.rounds, vars+2)
}

func (q *inquiry) mark(v int, as uint8) {
	q.marks[v] = as
	q.marked = append(q.marked, v)
}

func (q *inquiry) see(lits []literal) {
	for _, x := range lits {
		if v := x.variable(); q.marks[v] == unseen {
			q.mark(v, seen)
		}
	}
}

func (q *inquiry) wipe() {
	for _, v := range q.marked {
		q.marks[v] = unseen
	}
	q.marked = q.marked[:0]
}

// learn finds a clause out of a conflict on a level of a decision, and goes back to where the clause leaves one literal.
func (s *Solver) learn(conflict int) {
	s.traceBack(conflict)
	s.shorten()
	lits := s.why.lesson
	s.why.wipe()
	back := s.levelBack(lits)
	levels := s.countLevels(lits)
	s.backTo(back)
	at := none
	if len(lits) > 1 {
		at = s.put(lits)
		s.learned = append(s.learned, learned{at, levels})
	}
	s.assign(lits[0], at)
	s.waiting.Fade()
}

// traceBack goes back until all that led to the conflict on its level goes through one literal: the first one of the lesson is its negation.
func (s *Solver) traceBack(conflict int) {
	q := &s.why
	q.lesson = append(q.lesson[:0], nothing)
	here, at, i := 0, conflict, len(s.trail)
	for {
		for _, x := range s.lits(at) {
			v := x.variable()
			if q.marks[v] == seen || s.level[v] == root {
				continue
			}
			q.mark(v, seen)
			s.waiting.Bump(v)
			if int(s.level[v]) == s.depth() {
				here++
			} else {
				q.lesson = append(q.lesson, x)
			}
		}
		i--
		for q.marks[s.trail[i].variable()] != seen {
			i--
		}
		here--
		if here == 0 {
			q.lesson[0] = s.trail[i].not()
			return
		}
		at = s.reason[s.trail[i].variable()]
	}
}

// shorten leaves out the literals of the lesson to which others lead.
func (s *Solver) shorten() {
	q := &s.why
	s.countLevels(q.lesson)
	kept := q.lesson[:1]
	for _, x := range q.lesson[1:] {
		if v := x.variable(); s.reason[v] == none || !s.reasonLeads(v, mostSteps) {
			kept = append(kept, x)
		}
	}
	q.lesson = kept
}

// leads tells whether the variables that are seen lead to a variable.
func (s *Solver) leads(v, steps int) bool {
	q := &s.why
	switch {
	case s.level[v] == root, q.marks[v] == seen, q.marks[v] == led:
		return true
	case q.marks[v] == free, s.reason[v] == none, steps == 0, q.rounds[s.level[v]] != q.round:
		return false
	}
	if s.reasonLeads(v, steps-1) {
		q.mark(v, led)
		return true
	}
	q.mark(v, free)
	return false
}

func (s *Solver) reasonLeads(v, steps int) bool {
	for _, x := range s.lits(s.reason[v]) {
		if u := x.variable(); u != v && !s.leads(u, steps) {
			return false
		}
	}
	return true
}

// levelBack answers the last level but the conflict's own, and puts a literal of it where it will watch.
func (s *Solver) levelBack(lits []literal) int {
	if len(lits) == 1 {
		return root
	}
	last := 1
	for i, x := range lits {
		if i > 1 && s.level[x.variable()] > s.level[lits[last].variable()] {
			last = i
		}
	}
	lits[1], lits[last] = lits[last], lits[1]
	return int(s.level[lits[1].variable()])
}

// countLevels tells how many levels literals come from, and notes which ones.
func (s *Solver) countLevels(lits []literal) int {
	q := &s.why
	q.round++
	n := 0
	for _, x := range lits {
		if l := s.level[x.variable()]; q.rounds[l] != q.round {
			q.rounds[l] = q.round
			n++
		}
	}
	return n
}

// blame makes the core: the given literals that make all of some literals false, and the one that was denied, if one was. No decision may have been made.
func (s *Solver) blame(given []int, denied literal, lits []literal) {
	q := &s.why
	q.see(lits)
	for i := len(s.trail) - 1; i >= 0; i-- {
		v := s.trail[i].variable()
		if s.level[v] == root {
			break
		}
		if q.marks[v] == seen && s.reason[v] != none {
			q.see(s.lits(s.reason[v]))
		}
	}
	for _, lit := range given {
		x := literalOf(lit)
		v := x.variable()
		switch {
		case x == denied:
			denied = nothing
		case s.level[v] == givenLevel && q.marks[v] == seen:
			q.marks[v] = free
		default:
			continue
		}
		s.core = append(s.core, lit)
	}
	q.wipe()
}
