package sat

import (
	"math/bits"

	"inquest/api"
	"inquest/queue"
)

// pause is how many conflicts the shortest searches take before they begin anew.
const pause = 64

// luby is 1, 1, 2, 1, 1, 2, 4, 1, 1, 2, .. from n = 1 on.
func luby(n int) int {
	for {
		half := 1 << (bits.Len(uint(n)) - 1)
		if n == 2*half-1 {
			return half
		}
		n -= half - 1
	}
}

// makeRoom makes the queue anew where it is too small: a queue can't grow. With room to spare, this is seldom.
func (s *Solver) makeRoom() {
	if s.waiting == nil || s.room < s.vars {
		s.room = min(max(s.vars, 2*s.room), mostVars)
		s.waiting, _ = queue.New(s.room)
	}
}

func (s *Solver) backTo(depth int) {
	if s.depth() <= depth {
		return
	}
	from := s.starts[depth]
	for _, x := range s.trail[from:] {
		s.waiting.Back(x.variable())
	}
	s.clear(from)
	s.starts = s.starts[:depth]
}

// isSpent tells whether one more conflict would be too many. The greatest budget is never spent.
func (s *Solver) isSpent(budget int) bool {
	return s.conflicts == budget && budget < api.MaxBudget
}

func (s *Solver) search(given []int, budget int) api.Answer {
	round := 0
restart:
	s.backTo(root)
	round++
	patience := pause * luby(round)
	for {
		if at := s.propagate(); at != none {
			if s.depth() <= givenLevel {
				s.blame(given, nothing, s.lits(at))
				return api.No
			}
			if s.isSpent(budget) {
				return api.Open
			}
			s.conflicts++
			patience--
			s.learn(at)
			continue
		}
		if s.depth() == root {
			if s.isDue() {
				s.tidy()
			}
			if denied := s.give(given); denied != nothing {
				s.blame(given, denied, []literal{denied})
				return api.No
			}
			continue
		}
		if patience <= 0 {
			goto restart
		}
		if !s.decide() {
			s.keepModel()
			return api.Yes
		}
	}
}

// propagate tells the clauses what has become true, until nothing follows any more; it answers where a clause is of which all literals are false, if there is one.
func (s *Solver) propagate() int {
	conflict := none
telling:
	for s.told < len(s.trail) {
		x := s.trail[s.told].not()
		s.told++
		watches := s.watches[x]
		kept := 0
	visiting:
		for i, w := range watches {
			watches[kept] = w
			kept++
			if s.value[w.other] > 0 {
				continue
			}
			if !w.two {
				lits := s.lits(w.at)
				if lits[0] == x {
					lits[0], lits[1] = lits[1], x
				}
				w.other = lits[0]
				watches[kept-1].other = w.other
				if s.value[w.other] > 0 {
					continue
				}
				for k := 2; k < len(lits); k++ {
					if y := lits[k]; s.value[y] >= 0 {
						lits[1], lits[k] = y, x
						s.watches[y] = append(s.watches[y], w)
						kept--
						continue visiting
					}
				}
			}
			if s.value[w.other] < 0 {
				kept += copy(watches[kept:], watches[i+1:])
				s.watches[x] = watches[:kept]
				conflict = w.at
				break telling
			}
			s.assign(w.other, w.at)
		}
		s.watches[x] = watches[:kept]
	}
	return conflict
}

// give takes the given literals as true; it answers the first one that is false, if there is one.
func (s *Solver) give(given []int) literal {
	s.deepen()
	for _, lit := range given {
		x := literalOf(lit)
		if s.isFalse(x) {
			return x
		}
		if !s.isTrue(x) {
			s.assign(x, none)
		}
	}
	return nothing
}

// decide takes the next variable as it was the last time; it answers false where all variables are true or false.
func (s *Solver) decide() bool {
	for {
		v, ok := s.waiting.Next()
		if !ok {
			return false
		}
		if v > s.vars {
			// Those that the queue has to spare have not been bumped: they come last.
			s.waiting.Back(v)
			return false
		}
		x := literalOf(v)
		if s.isTrue(x) || s.isFalse(x) {
			continue
		}
		if !s.phase[v] {
			x = x.not()
		}
		s.deepen()
		s.assign(x, none)
		return true
	}
}

func (s *Solver) keepModel() {
	s.model = longer(s.model[:0], s.vars+1)
	for v := 1; v <= s.vars; v++ {
		s.model[v] = s.isTrue(literalOf(v))
	}
}
