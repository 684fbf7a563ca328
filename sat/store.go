package sat

import (
	"cmp"
	"slices"
)

// none is where no clause is.
const none = 0

// watch is a clause that is to be told when the literal that has this watch becomes false.
type watch struct {
	at    int
	other literal // of the clause: while it is true, the clause need not be looked at
	two   bool    // there are no more literals than these
}

// learned is a clause that was found: the fewer levels its literals came from, the sooner it will be of use again.
type learned struct {
	at, levels int
}

const (
	fewLevels   = 2    // clauses of no more levels are kept
	mostAtFirst = 3000 // learned clauses
	moreLater   = 300  // each time that some are dropped
)

// store is the clauses. A clause that was put has two literals or more; the first two are those that watch.
type store struct {
	words   []literal // clause behind clause: how many literals it has, and then these
	clauses []int
	learned []learned
	most    int // learned clauses, before half of them are dropped
	facts   int // what was true at the root when the clauses were looked through last
	watches [][]watch
}

func newStore() store {
	// No clause is at the first place, so that none can be told from clauses.
	return store{words: make([]literal, 1), most: mostAtFirst}
}

func (s *store) grow(vars int) { s.watches = longer(s.watches, 2*(vars+1)) }

func (s *store) lits(at int) []literal {
	from := at + 1
	return s.words[from : from+int(s.words[at])]
}

func (s *store) put(lits []literal) int {
	at := len(s.words)
	s.words = append(s.words, literal(len(lits)))
	s.words = append(s.words, lits...)
	two := len(lits) == 2
	s.watches[lits[0]] = append(s.watches[lits[0]], watch{at, lits[1], two})
	s.watches[lits[1]] = append(s.watches[lits[1]], watch{at, lits[0], two})
	return at
}

// dropHalf drops the learned clauses of many levels, but lets more of them come the next time, so that no search goes round for ever.
func (s *store) dropHalf() {
	slices.SortStableFunc(s.learned, func(a, b learned) int {
		if a.levels != b.levels {
			return cmp.Compare(a.levels, b.levels)
		}
		return cmp.Compare(s.words[a.at], s.words[b.at])
	})
	keep := len(s.learned) / 2
	for keep < len(s.learned) && s.learned[keep].levels <= fewLevels {
		keep++
	}
	s.learned = s.learned[:keep]
	s.most += moreLater
}

// isDue tells whether there is enough to drop to be worth the way through all clauses.
func (s *Solver) isDue() bool {
	return len(s.learned) > s.most || 64*(len(s.trail)-s.facts) > len(s.words)+s.vars
}

// tidy drops learned clauses if there are too many, and what the root has made useless. There, the clauses must have been told of all that is true.
func (s *Solver) tidy() {
	if len(s.learned) > s.most {
		s.dropHalf()
	}
	s.facts = len(s.trail)
	old := s.store
	s.words = make([]literal, 1, len(old.words))
	for x := range s.watches {
		s.watches[x] = s.watches[x][:0]
	}
	s.clauses = s.clauses[:0]
	for _, at := range old.clauses {
		if lits, ok := s.open(old.lits(at)); ok {
			s.clauses = append(s.clauses, s.put(lits))
		}
	}
	s.learned = s.learned[:0]
	for _, l := range old.learned {
		if lits, ok := s.open(old.lits(l.at)); ok {
			s.learned = append(s.learned, learned{s.put(lits), l.levels})
		}
	}
}

// open cuts a clause down, where it lies, to the literals that are not false at the root; false stands for a clause that one of them makes true.
func (s *Solver) open(lits []literal) ([]literal, bool) {
	if slices.ContainsFunc(lits, s.isTrue) {
		return nil, false
	}
	return slices.DeleteFunc(lits, s.isFalse), true
}
