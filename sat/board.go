package sat

// literal is twice its variable's number, and 1 more where it is a negation.
type literal uint32

// nothing is no literal of any variable: these are numbered from 1 on.
const nothing literal = 0

func literalOf(lit int) literal {
	if lit < 0 {
		return literal(1 - 2*lit)
	}
	return literal(2 * lit)
}

func (x literal) not() literal { return x ^ 1 }

func (x literal) variable() int { return int(x >> 1) }

// The levels: what holds for good, what is given, and from then on one for each decision.
const (
	root = iota
	givenLevel
)

// board is what is true, and why. The slices by variable or literal have places for variable 0 too.
type board struct {
	value  []int8    // by literal: 1 where it is true, -1 where it is false
	level  []int32   // by variable
	reason []int     // by variable: where the clause is that left nothing else, if it was one
	phase  []bool    // by variable: what it was the last time
	trail  []literal // what is true, in the order in which it became so
	starts []int     // where in the trail each level begins, from the first behind the root on
	told   int       // how many literals of the trail the clauses have been told of
}

// longer is a list with zeros behind it, up to the length that it is to have.
func longer[T any](l []T, length int) []T { return append(l, make([]T, length-len(l))...) }

func (b *board) grow(vars int) {
	b.value = longer(b.value, 2*(vars+1))
	b.level = longer(b.level, vars+1)
	b.reason = longer(b.reason, vars+1)
	b.phase = longer(b.phase, vars+1)
}

func (b *board) isTrue(x literal) bool { return b.value[x] > 0 }

func (b *board) isFalse(x literal) bool { return b.value[x] < 0 }

func (b *board) depth() int { return len(b.starts) }

func (b *board) deepen() { b.starts = append(b.starts, len(b.trail)) }

func (b *board) assign(x literal, reason int) {
	v := x.variable()
	b.value[x], b.value[x.not()] = 1, -1
	b.level[v] = int32(len(b.starts))
	b.reason[v] = reason
	b.trail = append(b.trail, x)
}

// clear makes nothing true any more from a place of the trail on.
func (b *board) clear(from int) {
	for _, x := range b.trail[from:] {
		b.value[x], b.value[x.not()] = 0, 0
		b.phase[x.variable()] = x&1 == 0
	}
	b.trail = b.trail[:from]
	b.told = min(b.told, from)
}
