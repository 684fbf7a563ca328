package queue

import (
	"math"
	"slices"
	"testing"

	"inquest/api"
	"inquest/sample"
)

// judged is a queue as the chapter's words tell it; index 0 stands for no variable.
type judged struct {
	step  uint64
	score []uint64
	waits []bool
}

func newJudged(vars int) *judged {
	j := &judged{step: 1, score: make([]uint64, vars+1), waits: make([]bool, vars+1)}
	for v := 1; v <= vars; v++ {
		j.waits[v] = true
	}
	return j
}

func (j *judged) next() (int, bool) {
	best := 0
	for v := 1; v < len(j.score); v++ {
		if j.waits[v] && (best == 0 || j.score[v] > j.score[best]) {
			best = v
		}
	}
	j.waits[best] = false
	return best, best > 0
}

func (j *judged) divide() {
	for v := range j.score {
		j.score[v] /= 1 << 24
	}
	j.step = max(j.step/(1<<24), 1)
}

func (j *judged) bump(v int) {
	j.score[v] += j.step
	if j.score[v] > 1<<48 {
		j.divide()
	}
}

func (j *judged) fade() {
	j.step += j.step/8 + 1
	if j.step > 1<<48 {
		j.divide()
	}
}

func (j *judged) len() int {
	n := 0
	for _, w := range j.waits {
		if w {
			n++
		}
	}
	return n
}

// of answers a queue of which New says that it is one.
func of(t *testing.T, vars int) *Queue {
	t.Helper()
	q, e := New(vars)
	if q == nil || e != api.OK {
		t.Fatalf("New(%d) = %v, %d", vars, q, e)
	}
	return q
}

// fine takes the answer of a call that is to succeed.
func fine(t *testing.T, e api.Errno) {
	t.Helper()
	if e != api.OK {
		t.Fatalf("error %d", e)
	}
}

// all takes what waits, one by one.
func all(q *Queue) []int {
	l := []int{}
	for v, ok := q.Next(); ok; v, ok = q.Next() {
		l = append(l, v)
	}
	return l
}

// same holds what a queue tells against what it ought to tell.
func same(t *testing.T, q *Queue, j *judged) {
	t.Helper()
	for v := range j.score {
		if q.Score(v) != j.score[v] || q.Waits(v) != j.waits[v] {
			t.Fatalf("variable %d: %d, %t, where %d, %t is right", v, q.Score(v), q.Waits(v), j.score[v], j.waits[v])
		}
	}
	if q.Len() != j.len() {
		t.Fatalf("%d variables wait, where %d is right", q.Len(), j.len())
	}
}

// P12.1: New.
func TestNew(t *testing.T) {
	for _, vars := range sample.NoVars() {
		if q, e := New(vars); q != nil || e != api.ErrArg {
			t.Errorf("New(%d) = %v, %d", vars, q, e)
		}
	}
	for vars := range 10 {
		q := of(t, vars)
		same(t, q, newJudged(vars))
		want := []int{}
		for v := 1; v <= vars; v++ {
			want = append(want, v)
		}
		if l := all(q); !slices.Equal(l, want) {
			t.Errorf("of %d variables, these wait: %v", vars, l)
		}
	}
}

// P12.1: as many variables as there may be.
func TestMost(t *testing.T) {
	const most = api.MaxVars * api.MaxFrames
	q := of(t, most)
	for _, v := range []int{most, most / 2, 7, most} {
		fine(t, q.Bump(v))
	}
	if q.Len() != most || !q.Waits(most) || q.Score(most) != 2 || q.Waits(most+1) || q.Bump(most+1) != api.ErrArg {
		t.Errorf("%d variables wait; the last one: %t, score %d", q.Len(), q.Waits(most), q.Score(most))
	}
	for _, want := range []int{most, 7, most / 2, 1, 2, 3} {
		if v, ok := q.Next(); v != want || !ok {
			t.Errorf("Next = %d, %t, where %d is right", v, ok, want)
		}
	}
	fine(t, q.Back(most))
	if v, ok := q.Next(); v != most || !ok {
		t.Errorf("Next = %d, %t, where the last one has come back", v, ok)
	}
	if n := len(all(q)); n != most-6 {
		t.Errorf("%d variables more come", n)
	}
}

// P12.1: a queue that no call made.
func TestNoQueue(t *testing.T) {
	for _, q := range []*Queue{nil, {}} {
		for _, v := range []int{0, 1, -1, math.MaxInt, math.MinInt} {
			if b, p := q.Back(v), q.Bump(v); b != api.ErrNil || p != api.ErrNil {
				t.Errorf("Back, Bump(%d): %d, %d", v, b, p)
			}
			if q.Score(v) != 0 || q.Waits(v) {
				t.Errorf("Score, Waits(%d): %d, %t", v, q.Score(v), q.Waits(v))
			}
		}
		q.Fade()
		if v, ok := q.Next(); v != 0 || ok || q.Len() != 0 || q.Bump(0) != api.ErrNil {
			t.Errorf("Next = %d, %t; Len = %d", v, ok, q.Len())
		}
	}
}

// P12.1: numbers that are no variables change nothing.
func TestNoVariable(t *testing.T) {
	for vars := range 4 {
		q, j := of(t, vars), newJudged(vars)
		for _, v := range []int{0, -1, -2, vars + 1, vars + 2, 1 << 31, 1 << 32, 1<<32 + 1, -1<<32 + 1, math.MaxInt, math.MinInt, math.MinInt + 1} {
			if b, p := q.Back(v), q.Bump(v); b != api.ErrArg || p != api.ErrArg {
				t.Errorf("Back, Bump(%d): %d, %d", v, b, p)
			}
			if q.Score(v) != 0 || q.Waits(v) {
				t.Errorf("Score, Waits(%d): %d, %t", v, q.Score(v), q.Waits(v))
			}
			same(t, q, j)
		}
	}
}

// P12.1: the highest score comes first, and of equal ones the smallest number.
func TestNext(t *testing.T) {
	for _, c := range []struct{ bumps, want []int }{
		{nil, []int{1, 2, 3, 4, 5}},
		{[]int{4}, []int{4, 1, 2, 3, 5}},
		{[]int{5, 3}, []int{3, 5, 1, 2, 4}},
		{[]int{3, 5}, []int{3, 5, 1, 2, 4}},
		{[]int{2, 5, 5}, []int{5, 2, 1, 3, 4}},
		{[]int{1, 2, 3, 4, 5}, []int{1, 2, 3, 4, 5}},
		{[]int{5, 5, 5, 4, 4, 4, 1, 2, 2}, []int{4, 5, 2, 1, 3}},
	} {
		q := of(t, 5)
		for _, v := range c.bumps {
			fine(t, q.Bump(v))
		}
		if l := all(q); !slices.Equal(l, c.want) {
			t.Errorf("behind bumps of %v come %v", c.bumps, l)
		}
		if v, ok := q.Next(); v != 0 || ok || q.Len() != 0 {
			t.Errorf("Next = %d, %t where none waits", v, ok)
		}
	}
}

// P12.1: a variable keeps its score while it does not wait, and comes back but once.
func TestBack(t *testing.T) {
	q := of(t, 3)
	fine(t, q.Back(2))
	if q.Len() != 3 {
		t.Errorf("%d wait", q.Len())
	}
	all(q)
	fine(t, q.Bump(3))
	if q.Waits(3) || q.Len() != 0 || q.Score(3) != 1 {
		t.Errorf("a variable that was bumped: %t, score %d", q.Waits(3), q.Score(3))
	}
	for _, v := range []int{2, 3, 2, 3, 1} {
		fine(t, q.Back(v))
		if !q.Waits(v) {
			t.Errorf("%d does not wait", v)
		}
	}
	if l := all(q); !slices.Equal(l, []int{3, 1, 2}) {
		t.Errorf("these come: %v", l)
	}
}

// P12.1: Fade, and what a bump adds then.
func TestFade(t *testing.T) {
	q := of(t, 1)
	want := uint64(0)
	for _, step := range []uint64{1, 2, 3, 4, 5, 6, 7, 8, 10, 12, 14, 16, 19, 22} {
		fine(t, q.Bump(1))
		if want += step; q.Score(1) != want {
			t.Fatalf("the score is %d, where %d is right", q.Score(1), want)
		}
		q.Fade()
	}
}

// steps answers the steps before any of them is divided.
func steps() []uint64 {
	l := []uint64{}
	for s := uint64(1); s <= 1<<48; s += s/8 + 1 {
		l = append(l, s)
	}
	return l
}

// P12.1: a score of 2^48 stays; one above it is divided, and with it all other scores and the step.
func TestDivideByBump(t *testing.T) {
	l := steps()
	l = l[:len(l)-1]
	times, left := make([]uint64, len(l)), uint64(1<<48)
	for i, s := range slices.Backward(l) {
		times[i], left = left/s, left%s
	}
	q := of(t, 4)
	for i := range l {
		if i > 0 {
			q.Fade()
		}
		for range times[i] {
			fine(t, q.Bump(2))
		}
		if i < 3 {
			fine(t, q.Bump(4))
		}
	}
	fine(t, q.Bump(3))
	step := l[len(l)-1]
	if q.Score(2) != 1<<48 || q.Score(3) != step || q.Score(4) != 6 {
		t.Fatalf("the scores are %d, %d, %d", q.Score(2), q.Score(3), q.Score(4))
	}
	fine(t, q.Bump(2))
	if q.Score(2) != (1<<48+step)>>24 || q.Score(3) != step>>24 || q.Score(4) != 0 {
		t.Fatalf("the scores are %d, %d, %d", q.Score(2), q.Score(3), q.Score(4))
	}
	fine(t, q.Bump(1))
	if q.Score(1) != step>>24 {
		t.Errorf("a bump adds %d, where %d is right", q.Score(1), step>>24)
	}
	if l := all(q); !slices.Equal(l, []int{2, 1, 3, 4}) {
		t.Errorf("these come: %v", l)
	}
}

// P12.1: a step above 2^48 is divided, and with it all scores: those that become equal come by their numbers.
func TestDivideByFade(t *testing.T) {
	l := steps()
	q := of(t, 5)
	fine(t, q.Bump(5))
	for range 2 {
		fine(t, q.Bump(4))
	}
	for i, s := range l {
		if i > 0 {
			q.Fade()
		}
		if s >= 1<<24 && q.Score(3) == 0 {
			fine(t, q.Bump(3))
		}
	}
	if v, _ := q.Next(); v != 3 || q.Score(4) != 2 || q.Score(5) != 1 {
		t.Errorf("%d comes first; the scores are %d, %d", v, q.Score(4), q.Score(5))
	}
	fine(t, q.Back(3))
	q.Fade()
	if q.Score(3) != 1 || q.Score(4) != 0 || q.Score(5) != 0 {
		t.Errorf("the scores are %d, %d, %d", q.Score(3), q.Score(4), q.Score(5))
	}
	fine(t, q.Bump(2))
	last := l[len(l)-1]
	if want := (last + last/8 + 1) >> 24; q.Score(2) != want {
		t.Errorf("a bump adds %d, where %d is right", q.Score(2), want)
	}
	if l := all(q); !slices.Equal(l, []int{2, 3, 1, 4, 5}) {
		t.Errorf("these come: %v", l)
	}
}

// P12.1, P12.2: scores that a division makes equal leave the order to the numbers.
func TestEqualBehindDivision(t *testing.T) {
	roll := sample.Dice(1212)
	for range 200 {
		vars := 2 + roll(20)
		q, j := of(t, vars), newJudged(vars)
		for i, s := range steps() {
			if i > 0 {
				q.Fade()
				j.fade()
			}
			// Scores far below 2^24 become 0, those a little above it 1 or 2.
			if s < 1<<10 || s > 1<<22 && s < 1<<25 {
				v := 1 + roll(vars)
				fine(t, q.Bump(v))
				j.bump(v)
			}
		}
		for range roll(3) {
			q.Next()
			j.next()
		}
		if roll(2) == 0 {
			fine(t, q.Bump(1))
			j.bump(1)
		}
		q.Fade()
		j.fade()
		same(t, q, j)
		for range vars + 1 {
			v, ok := q.Next()
			if w, is := j.next(); v != w || ok != is {
				t.Fatalf("Next = %d, %t, where %d, %t is right", v, ok, w, is)
			}
		}
	}
}

// P12.1: the step is at least 1: a score that small steps made too great divides a step below 2^24.
func TestLeastStep(t *testing.T) {
	q := of(t, 2)
	step := uint64(0)
	for _, s := range steps() {
		if s >= 1<<24 {
			break
		}
		if s > 1 {
			q.Fade()
		}
		step = s
	}
	for range uint64(1<<48) / step {
		if e := q.Bump(1); e != api.OK {
			t.Fatalf("error %d", e)
		}
	}
	if q.Score(1) != 1<<48/step*step {
		t.Fatalf("the score is %d", q.Score(1))
	}
	fine(t, q.Bump(1))
	if q.Score(1) != 1<<24 {
		t.Fatalf("the score is %d", q.Score(1))
	}
	fine(t, q.Bump(2))
	if q.Score(2) != 1 {
		t.Errorf("a bump adds %d", q.Score(2))
	}
}

// P12.1: calls that look like chance, held against the chapter's words.
func TestAgainstWords(t *testing.T) {
	roll := sample.Dice(12)
	for round := range 60 {
		vars := roll(12)
		q, j := of(t, vars), newJudged(vars)
		fades := 1 + round%5
		for range 1500 {
			switch v := 1 + roll(vars+1); {
			case roll(10) < fades:
				q.Fade()
				j.fade()
			case roll(3) == 0:
				v, ok := q.Next()
				if w, is := j.next(); v != w || ok != is {
					t.Fatalf("Next = %d, %t, where %d, %t is right", v, ok, w, is)
				}
			case v > vars:
				if q.Bump(v) != api.ErrArg || q.Back(v) != api.ErrArg {
					t.Fatalf("%d is taken as a variable", v)
				}
			case roll(2) == 0:
				fine(t, q.Bump(v))
				j.bump(v)
			default:
				fine(t, q.Back(v))
				j.waits[v] = true
			}
			same(t, q, j)
		}
	}
}

// P12.2: taken one by one, the variables come by descending scores; each that waited comes once.
func TestDescending(t *testing.T) {
	roll := sample.Dice(122)
	for range 50 {
		vars := 1 + roll(300)
		q := of(t, vars)
		for range 3000 {
			switch v := 1 + roll(vars); roll(8) {
			case 0:
				q.Fade()
			case 1:
				q.Next()
			case 2:
				fine(t, q.Back(v))
			default:
				fine(t, q.Bump(v))
			}
		}
		waiting := q.Len()
		l := all(q)
		ahead := func(v, w int) int {
			if q.Score(v) > q.Score(w) || q.Score(v) == q.Score(w) && v < w {
				return -1
			}
			return 1
		}
		if !slices.IsSortedFunc(l, ahead) || len(l) != waiting || q.Len() != 0 {
			t.Fatalf("of %d come %v", waiting, l)
		}
	}
}

// P12.1: queues do not share what they know.
func TestTwoQueues(t *testing.T) {
	p, q := of(t, 2), of(t, 2)
	fine(t, p.Bump(2))
	p.Fade()
	p.Next()
	same(t, q, newJudged(2))
	fine(t, q.Bump(2))
	if q.Score(2) != 1 {
		t.Errorf("the score is %d", q.Score(2))
	}
}

// P12.1: the chapter's example.
func TestExamples(t *testing.T) {
	q := of(t, 3)
	fine(t, q.Bump(3))
	if l := all(q); !slices.Equal(l, []int{3, 1, 2}) {
		t.Errorf("these come: %v", l)
	}
	fine(t, q.Back(2))
	if q.Len() != 1 || q.Bump(9) != api.ErrArg {
		t.Errorf("Len = %d, Bump(9) = %d", q.Len(), q.Bump(9))
	}
}
