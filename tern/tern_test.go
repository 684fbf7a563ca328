package tern

import (
	"bytes"
	"math"
	"slices"
	"testing"

	"inquest/api"
)

const (
	most = uint64(math.MaxUint64)
	top  = uint64(1) << 63
)

// values has all of them, in order.
var values = []uint8{api.Zero, api.One, api.X}

// negations and conjunctions are written out from DOC.md's section Terms.
var (
	negations    = [3]uint8{1, 0, 2}
	conjunctions = [3][3]uint8{{0, 0, 0}, {0, 1, 2}, {0, 2, 2}}
)

// seen answers a value as the negation and the conjunction see it.
func seen(v int) uint8 { return uint8(min(v, api.X)) }

// within tells whether a value equals another, or that one is X.
func within(a, b uint8) bool { return a == b || b == api.X }

// set puts a value into the bits of a word as the chapter tells them, one bit a time.
func set(w *api.Word, i int, v uint8) {
	w.Zero &^= 1 << i
	w.One &^= 1 << i
	if v != api.One {
		w.Zero |= 1 << i
	}
	if v != api.Zero {
		w.One |= 1 << i
	}
}

// word answers the word of values, followed by zeros.
func word(l ...uint8) api.Word {
	w := api.Word{Zero: most}
	for i, v := range l {
		set(&w, i, v)
	}
	return w
}

func repeat(v uint8, n int) []uint8 { return slices.Repeat([]uint8{v}, n) }

// all answers the word of one value throughout.
func all(v uint8) api.Word { return word(repeat(v, api.Side)...) }

// cycle answers as many values as a word has, the next value behind each many.
func cycle(first, many int) []uint8 {
	var l []uint8
	for i := range api.Side {
		l = append(l, uint8((first+i)/many%3))
	}
	return l
}

// wrong has words that are not valid, none, some or only one of whose values are wrong.
var wrong = []api.Word{
	{},
	{Zero: most &^ 1},
	{Zero: most >> 1},
	{One: most &^ 1},
	{One: most >> 1},
	{Zero: most &^ (1 << 31), One: most &^ (1 << 31)},
	{Zero: 1, One: 1},
	{Zero: top, One: top},
	{Zero: 0xaaaaaaaaaaaaaaaa, One: 0xaaaaaaaaaaaaaaaa},
	{Zero: 0xffffffff},
	{One: 0xffffffff},
	{Zero: 0xffffffff, One: 0xfffffffe00000000},
}

// right has words that are valid.
func right() []api.Word {
	l := []api.Word{
		{Zero: most},
		{One: most},
		{Zero: most, One: most},
		{Zero: most &^ 1, One: 1},
		{Zero: most >> 1, One: top},
		{Zero: 0xaaaaaaaaaaaaaaaa, One: 0x5555555555555555},
		{Zero: 0xffffffff, One: 0xffffffff00000000},
		{Zero: 0xffffffff, One: 0xffffffff80000000},
	}
	for _, many := range []int{1, 3, 9, 27} {
		l = append(l, word(cycle(0, many)...), word(cycle(api.Side, many)...))
	}
	return l
}

// noIndex has numbers that are not indices, some of which are 0 or 1 in 5, 6, 8 or 32 bits.
var noIndex = []int{-1, -63, -64, -65, api.Side, api.Side + 1, 128, 256, 1 << 32, 1<<32 + 1, math.MinInt, math.MinInt + 1, math.MaxInt}

// P6.1: May.
func TestMay(t *testing.T) {
	for _, w := range right() {
		if !May(w) {
			t.Errorf("May(%x) = false", w)
		}
	}
	for _, w := range wrong {
		if May(w) {
			t.Errorf("May(%x) = true", w)
		}
	}
}

// P6.1: a word is valid just if each of its values is.
func TestMayEveryIndex(t *testing.T) {
	for _, w := range right() {
		for i := range api.Side {
			x := api.Word{Zero: w.Zero &^ (1 << i), One: w.One &^ (1 << i)}
			if May(x) {
				t.Errorf("May(%x) = true without a bit at %d", x, i)
			}
		}
	}
}

// P6.1: All, of every byte.
func TestAll(t *testing.T) {
	want := [3]api.Word{api.Zero: {Zero: most}, api.One: {One: most}, api.X: {Zero: most, One: most}}
	for v := range 256 {
		w, e := All(uint8(v))
		if v <= api.X && (w != want[v] || e != api.OK) || v > api.X && (w != api.Word{} || e != api.ErrArg) {
			t.Errorf("All(%d) = %x, %d", v, w, e)
		}
	}
}

// P6.1: Of.
func TestOf(t *testing.T) {
	for _, c := range []struct {
		what      string
		l         []uint8
		zero, one uint64
	}{
		{"nil", nil, most, 0},
		{"empty", []uint8{}, most, 0},
		{"0", []uint8{0}, most, 0},
		{"1", []uint8{1}, most &^ 1, 1},
		{"X", []uint8{2}, most, 1},
		{"0 1 X", []uint8{0, 1, 2}, most &^ 2, 6},
		{"X 0 1 1", []uint8{2, 0, 1, 1}, most &^ 12, 13},
		{"zeros, then 1", append(repeat(0, 63), 1), most &^ top, top},
		{"ones, then X", append(repeat(1, 63), 2), top, most},
		{"all zeros", repeat(0, 64), most, 0},
		{"all ones", repeat(1, 64), 0, most},
		{"all X", repeat(2, 64), most, most},
		{"ones short of one", repeat(1, 63), top, most &^ top},
	} {
		if w, e := Of(c.l); w.Zero != c.zero || w.One != c.one || e != api.OK {
			t.Errorf("%s: Of = %x, %d", c.what, w, e)
		}
	}
}

// P6.1: Of, of any number of values.
func TestOfEveryLength(t *testing.T) {
	long := slices.Concat(cycle(1, 1), cycle(0, 3), cycle(2, 9))
	for n := range long {
		want, e := api.Word{}, api.ErrArg
		if n <= api.Side {
			want, e = word(long[:n]...), api.OK
		}
		if w, f := Of(long[:n]); w != want || f != e {
			t.Errorf("Of(%d values) = %x, %d", n, w, f)
		}
	}
	if w, e := Of(make([]uint8, 1<<20)); (w != api.Word{}) || e != api.ErrArg {
		t.Errorf("Of(2^20 values) = %x, %d", w, e)
	}
}

// P6.1: Of refuses what is not a value, wherever it stands.
func TestOfEveryValue(t *testing.T) {
	for _, n := range []int{1, 2, 63, 64, 65} {
		for i := range n {
			for _, v := range []uint8{0, 1, 2, 3, 4, 64, 128, 254, 255, '0', '1', 'x'} {
				l := cycle(n, 1)
				l = append(l, 0)[:n]
				l[i] = v
				want, e := api.Word{}, api.ErrArg
				if n <= api.Side && v <= api.X {
					want, e = word(l...), api.OK
				}
				if w, f := Of(l); w != want || f != e {
					t.Errorf("Of(%d values, %d at %d) = %x, %d", n, v, i, w, f)
				}
			}
		}
	}
}

// P6.1: Of changes neither its argument nor spare capacity, and does not read the latter.
func TestOfKeepsTheList(t *testing.T) {
	array := []uint8{1, 2, 0, 1, 1, 9}
	if w, e := Of(array[:3]); w != word(1, 2) || e != api.OK {
		t.Errorf("Of = %x, %d", w, e)
	}
	if !bytes.Equal(array, []uint8{1, 2, 0, 1, 1, 9}) {
		t.Errorf("the list is %v", array)
	}
}

// P6.1: At.
func TestAt(t *testing.T) {
	for i := range api.Side {
		for _, v := range values {
			for _, w := range right() {
				set(&w, i, v)
				if got, ok := At(w, i); got != v || !ok {
					t.Errorf("At(%x, %d) = %d, %v", w, i, got, ok)
				}
			}
		}
	}
}

// P6.1: At without an index, or a word.
func TestAtNothing(t *testing.T) {
	for _, w := range right() {
		for _, i := range noIndex {
			if v, ok := At(w, i); v != 0 || ok {
				t.Errorf("At(%x, %d) = %d, %v", w, i, v, ok)
			}
		}
	}
	for _, w := range wrong {
		for i := range api.Side {
			if v, ok := At(w, i); v != 0 || ok {
				t.Errorf("At(%x, %d) = %d, %v", w, i, v, ok)
			}
		}
		if v, ok := At(w, -1); v != 0 || ok {
			t.Errorf("At(%x, -1) = %d, %v", w, v, ok)
		}
	}
}

// P6.1: With puts a value at an index, and nowhere else.
func TestWith(t *testing.T) {
	for _, w := range right() {
		for i := range api.Side {
			for _, v := range values {
				want := w
				set(&want, i, v)
				if got, e := With(w, i, v); got != want || e != api.OK {
					t.Errorf("With(%x, %d, %d) = %x, %d", w, i, v, got, e)
				}
			}
		}
	}
}

// P6.1: what With refuses.
func TestWithErrors(t *testing.T) {
	refused := func(w api.Word, i int, v uint8) {
		t.Helper()
		if got, e := With(w, i, v); (got != api.Word{}) || e != api.ErrArg {
			t.Errorf("With(%x, %d, %d) = %x, %d", w, i, v, got, e)
		}
	}
	for _, v := range values {
		for _, w := range right() {
			for _, i := range noIndex {
				refused(w, i, v)
			}
		}
		// Not even where the value would mend the word.
		for _, w := range wrong {
			for i := range api.Side {
				refused(w, i, v)
			}
			refused(w, -1, v)
		}
	}
	for v := api.X + 1; v < 256; v++ {
		for i := range api.Side {
			refused(word(cycle(0, 1)...), i, uint8(v))
		}
		refused(api.Word{}, api.Side, uint8(v))
	}
}

// P6.1: With does what Of does, value by value.
func TestWithBuilds(t *testing.T) {
	l := cycle(5, 2)
	for _, w := range right() {
		for i, v := range slices.Backward(l) {
			w, _ = With(w, i, v)
		}
		if w != word(l...) {
			t.Errorf("built %x, not %x", w, word(l...))
		}
	}
}

// P6.2: Not1 and And1, of every byte.
func TestSingleValues(t *testing.T) {
	for a := range 256 {
		if v := Not1(uint8(a)); v != negations[seen(a)] {
			t.Errorf("Not1(%d) = %d", a, v)
		}
		for b := range 256 {
			if v := And1(uint8(a), uint8(b)); v != conjunctions[seen(a)][seen(b)] {
				t.Errorf("And1(%d, %d) = %d", a, b, v)
			}
		}
	}
}

// P6.2: Not and And, bit by bit.
func TestBits(t *testing.T) {
	for _, c := range []struct {
		what      string
		w         api.Word
		zero, one uint64
	}{
		{"Not of zeros", Not(api.Word{Zero: most}), 0, most},
		{"Not of ones", Not(api.Word{One: most}), most, 0},
		{"Not of X", Not(api.Word{Zero: most, One: most}), most, most},
		{"Not of 0 1 X", Not(api.Word{Zero: most &^ 2, One: 6}), 6, most &^ 2},
		{"And of ones", And(api.Word{One: most}, api.Word{One: most}), 0, most},
		{"And of X", And(api.Word{Zero: most, One: most}, api.Word{Zero: most, One: most}), most, most},
		{"And of ones and X", And(api.Word{One: most}, api.Word{Zero: most, One: most}), most, most},
		{"And of X and ones", And(api.Word{Zero: most, One: most}, api.Word{One: most}), most, most},
		{"And of zeros and X", And(api.Word{Zero: most}, api.Word{Zero: most, One: most}), most, 0},
		{"And of X and zeros", And(api.Word{Zero: most, One: most}, api.Word{Zero: most}), most, 0},
		{"And of halves", And(api.Word{Zero: 0xffffffff, One: 0xffffffff00000000}, api.Word{Zero: 0xffffffff00000000, One: 0xffffffff}), most, 0},
		{"And of 0 1 X and 1 1 1", And(api.Word{Zero: most &^ 2, One: 6}, api.Word{Zero: most &^ 7, One: 7}), most &^ 2, 6},
	} {
		if c.w.Zero != c.zero || c.w.One != c.one {
			t.Errorf("%s = %x", c.what, c.w)
		}
	}
}

// P6.2: of words that are not valid.
func TestWrongWords(t *testing.T) {
	zeros := api.Word{Zero: most}
	for _, a := range wrong {
		if w := Not(a); w != zeros {
			t.Errorf("Not(%x) = %x", a, w)
		}
		for _, b := range append(right(), wrong...) {
			if w := And(a, b); w != zeros {
				t.Errorf("And(%x, %x) = %x", a, b, w)
			}
			if w := And(b, a); w != zeros {
				t.Errorf("And(%x, %x) = %x", b, a, w)
			}
			if s := Within(a, b); s != 0 {
				t.Errorf("Within(%x, %x) = %x", a, b, s)
			}
			if s := Within(b, a); s != 0 {
				t.Errorf("Within(%x, %x) = %x", b, a, s)
			}
		}
	}
}

// P6.2: Within.
func TestWithin(t *testing.T) {
	for _, a := range right() {
		for _, b := range right() {
			got := Within(a, b)
			for i := range api.Side {
				u, _ := At(a, i)
				v, _ := At(b, i)
				if got>>i&1 == 1 != within(u, v) {
					t.Errorf("Within(%x, %x) = %x: wrong at %d", a, b, got, i)
				}
			}
		}
	}
}

// P6.2: Within, of each two values at each index, in words that are otherwise within and not within.
func TestWithinEveryIndex(t *testing.T) {
	for _, u := range values {
		for _, v := range values {
			for i := range api.Side {
				a, b := all(api.One), all(api.X)
				set(&a, i, u)
				set(&b, i, v)
				want := most &^ (1 << i)
				if within(u, v) {
					want = most
				}
				if got := Within(a, b); got != want {
					t.Errorf("%d, %d at %d: Within = %x", u, v, i, got)
				}
				a, b = all(api.One), all(api.Zero)
				set(&a, i, u)
				set(&b, i, v)
				if got := Within(a, b); got != want&(1<<i) {
					t.Errorf("%d, %d at %d in others: Within = %x", u, v, i, got)
				}
			}
		}
	}
}

// P6.3: Not and And agree with Not1 and And1 at each index.
func TestWordsAgreeWithValues(t *testing.T) {
	for _, a := range right() {
		n := Not(a)
		if !May(n) || Not(n) != a {
			t.Errorf("Not(%x) = %x", a, n)
		}
		for i := range api.Side {
			u, _ := At(a, i)
			if got, _ := At(n, i); got != Not1(u) {
				t.Errorf("Not(%x) = %x: %d at %d", a, n, got, i)
			}
		}
		for _, b := range right() {
			c := And(a, b)
			if !May(c) {
				t.Errorf("And(%x, %x) = %x", a, b, c)
			}
			for i := range api.Side {
				u, _ := At(a, i)
				v, _ := At(b, i)
				if got, _ := At(c, i); got != And1(u, v) {
					t.Errorf("And(%x, %x) = %x: %d at %d", a, b, c, got, i)
				}
			}
		}
	}
}

// P6.3: each two values meet at each index.
func TestWordsAgreeEverywhere(t *testing.T) {
	for i := range api.Side {
		for u, n := range negations {
			a := word(cycle(i, 2)...)
			set(&a, i, uint8(u))
			if got, ok := At(Not(a), i); got != n || !ok {
				t.Errorf("Not of %d at %d: %d, %v", u, i, got, ok)
			}
			for v, c := range conjunctions[u] {
				b := word(cycle(i, 5)...)
				set(&b, i, uint8(v))
				if got, ok := At(And(a, b), i); got != c || !ok {
					t.Errorf("And of %d and %d at %d: %d, %v", u, v, i, got, ok)
				}
			}
		}
	}
}

// P6.3: containment is preserved by Not and And.
func TestContainment(t *testing.T) {
	for _, a := range right() {
		for _, b := range right() {
			in := Within(a, b)
			if out := Within(Not(a), Not(b)); in&^out != 0 {
				t.Errorf("Not: %x within %x: %x, then %x", a, b, in, out)
			}
			for _, c := range right() {
				for _, d := range right() {
					both := in & Within(c, d)
					if out := Within(And(a, c), And(b, d)); both&^out != 0 {
						t.Errorf("And: %x within %x, %x within %x: %x, then %x", a, b, c, d, both, out)
					}
				}
			}
		}
	}
}

// The chapter's examples.
func TestExamples(t *testing.T) {
	w, e := Of([]uint8{0, 1, api.X})
	if w.Zero&7 != 0b101 || w.One&7 != 0b110 || e != api.OK {
		t.Errorf("Of = %x, %d", w, e)
	}
	if v, ok := At(w, 2); v != api.X || !ok {
		t.Errorf("At = %d, %v", v, ok)
	}
	unknown, _ := All(api.X)
	nothing, _ := All(api.Zero)
	first := func(w api.Word) []uint8 {
		var l []uint8
		for i := range 3 {
			v, _ := At(w, i)
			l = append(l, v)
		}
		return l
	}
	if l := first(And(w, unknown)); !bytes.Equal(l, []uint8{0, api.X, api.X}) {
		t.Errorf("And = %v", l)
	}
	if l := first(Not(w)); !bytes.Equal(l, []uint8{1, 0, api.X}) {
		t.Errorf("Not = %v", l)
	}
	if s := Within(nothing, unknown); s != most {
		t.Errorf("Within = %x", s)
	}
	if v, ok := At(api.Word{}, 0); v != 0 || ok {
		t.Errorf("At of the zero word = %d, %v", v, ok)
	}
	if v := And1(api.Zero, api.X); v != api.Zero {
		t.Errorf("And1(0, X) = %d", v)
	}
	if v := And1(api.One, api.X); v != api.X {
		t.Errorf("And1(1, X) = %d", v)
	}
}
