package raw

import (
	"math"
	"slices"
	"strconv"
	"strings"
	"testing"

	"inquest/api"
)

// full has something of each kind, and each of the resets.
func full() api.Raw {
	return api.Raw{
		Max:         9,
		Inputs:      []uint32{2, 4},
		Latches:     []api.RawLatch{{Lit: 6, Next: 15}, {Lit: 8, Next: 0, Reset: 1}, {Lit: 10, Next: 1, Reset: 10}},
		Outputs:     []uint32{19, 6},
		Bads:        []uint32{14, 3, 0},
		Constraints: []uint32{1, 16, 17, 18},
		Gates:       []api.RawGate{{Lit: 14, A: 2, B: 5}, {Lit: 16, A: 14, B: 1}},
	}
}

const fullText = "aag 9 2 3 2 2 3 4\n2\n4\n6 15\n8 0 1\n10 1 10\n19\n6\n14\n3\n0\n1\n16\n17\n18\n14 2 5\n16 14 1\n"

// with answers full after a change.
func with(change func(*api.Raw)) api.Raw {
	r := full()
	change(&r)
	return r
}

func repeat[T any](x T, n int) []T { return slices.Repeat([]T{x}, n) }

// widest has as much of everything as there may be, and the longest literals.
func widest() api.Raw {
	const lit = 2*api.MaxVars + 1
	return api.Raw{
		Max:         api.MaxVars,
		Inputs:      repeat(uint32(lit), 4),
		Latches:     repeat(api.RawLatch{Lit: lit, Next: lit, Reset: lit}, 10000),
		Outputs:     repeat(uint32(lit), api.MaxList),
		Bads:        repeat(uint32(lit), api.MaxList),
		Constraints: repeat(uint32(lit), api.MaxList),
		Gates:       repeat(api.RawGate{Lit: lit, A: lit, B: lit}, api.MaxVars-10004),
	}
}

// P2.1: May, and Put of what is not valid.
func TestMay(t *testing.T) {
	for _, c := range []struct {
		what string
		r    api.Raw
		want bool
	}{
		{"zero", api.Raw{}, true},
		{"full", full(), true},
		{"empty lists", api.Raw{Inputs: []uint32{}, Gates: []api.RawGate{}, Bads: []uint32{}}, true},
		{"widest", widest(), true},
		{"Max at its limit", api.Raw{Max: api.MaxVars}, true},
		{"Max above its limit", api.Raw{Max: api.MaxVars + 1}, false},
		{"Max whose double overflows", api.Raw{Max: 1 << 31, Outputs: []uint32{0}}, false},
		{"the greatest Max", api.Raw{Max: math.MaxUint32}, false},
		{"inputs up to Max", api.Raw{Max: 2, Inputs: []uint32{2, 4}}, true},
		{"inputs above Max", api.Raw{Max: 2, Inputs: []uint32{2, 4, 4}}, false},
		{"latches above Max", api.Raw{Max: 1, Latches: make([]api.RawLatch, 2)}, false},
		{"gates above Max", api.Raw{Max: 1, Gates: make([]api.RawGate, 2)}, false},
		{"all kinds up to Max", api.Raw{Max: 3, Inputs: []uint32{2}, Latches: make([]api.RawLatch, 1), Gates: make([]api.RawGate, 1)}, true},
		{"all kinds above Max", api.Raw{Max: 2, Inputs: []uint32{2}, Latches: make([]api.RawLatch, 1), Gates: make([]api.RawGate, 1)}, false},
		{"outputs at their limit", api.Raw{Outputs: make([]uint32, api.MaxList)}, true},
		{"outputs above their limit", api.Raw{Outputs: make([]uint32, api.MaxList+1)}, false},
		{"bads at their limit", api.Raw{Bads: make([]uint32, api.MaxList)}, true},
		{"bads above their limit", api.Raw{Bads: make([]uint32, api.MaxList+1)}, false},
		{"constraints at their limit", api.Raw{Constraints: make([]uint32, api.MaxList)}, true},
		{"constraints above their limit", api.Raw{Constraints: make([]uint32, api.MaxList+1)}, false},
		{"undefined, negated and repeated literals", api.Raw{Max: 4, Inputs: []uint32{3, 3}, Latches: []api.RawLatch{{Lit: 0, Next: 9}}, Gates: []api.RawGate{{Lit: 1, A: 3, B: 9}}}, true},
		{"variable 0 without Max", api.Raw{Bads: []uint32{0, 1}}, true},
		{"input above", with(func(r *api.Raw) { r.Inputs[1] = 20 }), false},
		{"input at the limit", with(func(r *api.Raw) { r.Inputs[1] = 19 }), true},
		{"latch above", with(func(r *api.Raw) { r.Latches[2].Lit, r.Latches[2].Reset = 20, 0 }), false},
		{"free latch above", with(func(r *api.Raw) { r.Latches[2].Lit, r.Latches[2].Reset = 20, 20 }), false},
		{"latch at the limit", with(func(r *api.Raw) { r.Latches[2].Lit, r.Latches[2].Reset = 19, 19 }), true},
		{"Next above", with(func(r *api.Raw) { r.Latches[0].Next = 20 }), false},
		{"Next at the limit", with(func(r *api.Raw) { r.Latches[0].Next = 19 }), true},
		{"Reset 2", with(func(r *api.Raw) { r.Latches[0].Reset = 2 }), false},
		{"Reset of another latch", with(func(r *api.Raw) { r.Latches[2].Reset = 8 }), false},
		{"Reset is the negated latch", with(func(r *api.Raw) { r.Latches[2].Reset = 11 }), false},
		{"Reset is Next", with(func(r *api.Raw) { r.Latches[0].Reset = 15 }), false},
		{"Reset is a negated latch itself", with(func(r *api.Raw) { r.Latches[2].Lit, r.Latches[2].Reset = 11, 11 }), true},
		{"output above", with(func(r *api.Raw) { r.Outputs[1] = 20 }), false},
		{"output at the limit", with(func(r *api.Raw) { r.Outputs[1] = 19 }), true},
		{"bad above", with(func(r *api.Raw) { r.Bads[2] = 20 }), false},
		{"bad at the limit", with(func(r *api.Raw) { r.Bads[2] = 19 }), true},
		{"constraint above", with(func(r *api.Raw) { r.Constraints[3] = 20 }), false},
		{"constraint at the limit", with(func(r *api.Raw) { r.Constraints[3] = 19 }), true},
		{"gate above", with(func(r *api.Raw) { r.Gates[1].Lit = 20 }), false},
		{"gate at the limit", with(func(r *api.Raw) { r.Gates[1].Lit = 19 }), true},
		{"A above", with(func(r *api.Raw) { r.Gates[1].A = 20 }), false},
		{"A at the limit", with(func(r *api.Raw) { r.Gates[1].A = 19 }), true},
		{"B above", with(func(r *api.Raw) { r.Gates[1].B = 20 }), false},
		{"B at the limit", with(func(r *api.Raw) { r.Gates[1].B = 19 }), true},
		{"the greatest literal", with(func(r *api.Raw) { r.Bads[0] = math.MaxUint32 }), false},
	} {
		if got := May(c.r); got != c.want {
			t.Errorf("%s: May = %t", c.what, got)
		}
		b, e := Put(c.r)
		if c.want && (e != api.OK || len(b) == 0) || !c.want && (e != api.ErrArg || len(b) > 0) {
			t.Errorf("%s: Put = %.40q, %d", c.what, b, e)
		}
	}
}

// P2.1: Put.
func TestPut(t *testing.T) {
	for _, c := range []struct {
		r    api.Raw
		want string
	}{
		{api.Raw{}, "aag 0 0 0 0 0\n"},
		{api.Raw{Max: 16384}, "aag 16384 0 0 0 0\n"},
		{full(), fullText},
		{api.Raw{Max: 1, Inputs: []uint32{3}}, "aag 1 1 0 0 0\n3\n"},
		{api.Raw{Max: 1, Latches: []api.RawLatch{{Lit: 2, Next: 3}}}, "aag 1 0 1 0 0\n2 3\n"},
		{api.Raw{Max: 1, Latches: []api.RawLatch{{Lit: 2, Next: 3, Reset: 1}}}, "aag 1 0 1 0 0\n2 3 1\n"},
		{api.Raw{Max: 1, Latches: []api.RawLatch{{Lit: 2, Next: 3, Reset: 2}}}, "aag 1 0 1 0 0\n2 3 2\n"},
		{api.Raw{Max: 1, Latches: []api.RawLatch{{Lit: 0, Next: 3, Reset: 0}}}, "aag 1 0 1 0 0\n0 3\n"},
		{api.Raw{Max: 1, Gates: []api.RawGate{{Lit: 2, A: 1, B: 0}}}, "aag 1 0 0 0 1\n2 1 0\n"},
		{api.Raw{Outputs: []uint32{1}}, "aag 0 0 0 1 0\n1\n"},
		{api.Raw{Bads: []uint32{1}}, "aag 0 0 0 0 0 1\n1\n"},
		{api.Raw{Constraints: []uint32{1}}, "aag 0 0 0 0 0 0 1\n1\n"},
		{api.Raw{Bads: []uint32{1}, Constraints: []uint32{0}}, "aag 0 0 0 0 0 1 1\n1\n0\n"},
	} {
		if b, e := Put(c.r); string(b) != c.want || e != api.OK {
			t.Errorf("Put(%v) = %q, %d", c.r, b, e)
		}
	}
}

// P2.1: Put answers new memory, and touches neither its argument nor its spare capacity.
func TestPutSharesNothing(t *testing.T) {
	r := full()
	r.Inputs = append(make([]uint32, 0, 9), r.Inputs...)
	b, _ := Put(r)
	if !Same(r, full()) || !slices.Equal(r.Inputs[2:9], make([]uint32, 7)) {
		t.Errorf("the argument was changed: %v", r)
	}
	for i := range b {
		b[i] = '#'
	}
	if b, e := Put(r); string(b) != fullText || e != api.OK {
		t.Errorf("a change to a result: Put = %q, %d", b, e)
	}
}

// P2.1: Same.
func TestSame(t *testing.T) {
	if !Same(full(), full()) || !Same(api.Raw{}, api.Raw{}) {
		t.Error("Same does not hold of the same")
	}
	none := api.Raw{Inputs: []uint32{}, Latches: []api.RawLatch{}, Outputs: []uint32{}, Bads: []uint32{}, Constraints: []uint32{}, Gates: []api.RawGate{}}
	if !Same(none, api.Raw{}) || !Same(api.Raw{}, none) {
		t.Error("Same tells empty lists from none")
	}
	for i, change := range []func(*api.Raw){
		func(r *api.Raw) { r.Max++ },
		func(r *api.Raw) { r.Inputs[1]++ },
		func(r *api.Raw) { r.Inputs = r.Inputs[:1] },
		func(r *api.Raw) { r.Inputs = nil },
		func(r *api.Raw) { slices.Reverse(r.Inputs) },
		func(r *api.Raw) { r.Latches[2].Lit++ },
		func(r *api.Raw) { r.Latches[2].Next++ },
		func(r *api.Raw) { r.Latches[2].Reset++ },
		func(r *api.Raw) { r.Latches = r.Latches[:2] },
		func(r *api.Raw) { r.Outputs[1]++ },
		func(r *api.Raw) { r.Outputs = r.Outputs[:1] },
		func(r *api.Raw) { r.Bads[2]++ },
		func(r *api.Raw) { r.Bads = r.Bads[:2] },
		func(r *api.Raw) { r.Constraints[3]++ },
		func(r *api.Raw) { r.Constraints = r.Constraints[:3] },
		func(r *api.Raw) { r.Gates[1].Lit++ },
		func(r *api.Raw) { r.Gates[1].A++ },
		func(r *api.Raw) { r.Gates[1].B++ },
		func(r *api.Raw) { r.Gates = r.Gates[:1] },
	} {
		if r := with(change); Same(r, full()) || Same(full(), r) {
			t.Errorf("change %d: Same holds of %v", i, r)
		}
	}
}

// P2.2: Head of what is well-formed.
func TestHead(t *testing.T) {
	for _, c := range []struct {
		word, b string
		want    [7]uint32
		rest    string
	}{
		{"aag", "aag 0 0 0 0 0\n", [7]uint32{}, ""},
		{"aag", "aag 9 2 3 4 1 5 6\nx", [7]uint32{9, 2, 3, 4, 1, 5, 6}, "x"},
		{"aig", "aig 9 2 3 4 1\n\n5\n", [7]uint32{9, 2, 3, 4, 1}, "\n5\n"},
		{"aag", "aag 9 2 3 4 1 5\n", [7]uint32{9, 2, 3, 4, 1, 5}, ""},
		{"aag", "aag 9 2 3 4 1 5 6 0\n", [7]uint32{9, 2, 3, 4, 1, 5, 6}, ""},
		{"aag", "aag 9 2 3 4 1 5 6 0 0\n", [7]uint32{9, 2, 3, 4, 1, 5, 6}, ""},
		{"aag", "aag 9 0 0 0 0 0 0\n", [7]uint32{9}, ""},
		{"5", "5 5 0 0 0 0\n", [7]uint32{5}, ""},
		{"aag", "aag 6 1 2 0 3\n", [7]uint32{6, 1, 2, 0, 3}, ""},
		{"aag", "aag 16384 16384 0 1024 0 1024 1024\n", [7]uint32{16384, 16384, 0, 1024, 0, 1024, 1024}, ""},
		{"aag", "aag 16384 0 16384 0 0\n", [7]uint32{16384, 0, 16384}, ""},
		{"aag", "aag 16384 0 0 0 16384\n", [7]uint32{16384, 0, 0, 0, 16384}, ""},
	} {
		if l, rest, e := Head(c.word, []byte(c.b)); l != c.want || string(rest) != c.rest || e != api.OK {
			t.Errorf("Head(%q, %q) = %v, %q, %d", c.word, c.b, l, rest, e)
		}
	}
}

// P2.2: the errors of Head, and which of several comes first.
func TestHeadErrors(t *testing.T) {
	for _, c := range []struct {
		word, b string
		e       api.Errno
	}{
		{"aag", "", api.ErrShort},
		{"aag", "aag 0 0 0 0 0", api.ErrShort},
		{"aag", "aag  x", api.ErrShort},
		{"aag", "aag 0 0 0 0  0\n", api.ErrForm},
		{"aag", " aag 0 0 0 0 0\n", api.ErrForm},
		{"aag", "aag 0 0 0 0 0 \n", api.ErrForm},
		{"aag", "\n", api.ErrForm},
		{"", "\n", api.ErrForm},
		{"", " 0 0 0 0 0\n", api.ErrForm},
		{"", "0 0 0 0 0\n", api.ErrForm},
		{"aag", "aig 0 0 0 0 0\n", api.ErrForm},
		{"aig", "aag 0 0 0 0 0\n", api.ErrForm},
		{"aag", "aa 0 0 0 0 0\n", api.ErrForm},
		{"aag", "aagg 0 0 0 0 0\n", api.ErrForm},
		{"aag", "AAG 0 0 0 0 0\n", api.ErrForm},
		{"aag 0", "aag 0 0 0 0 0 0\n", api.ErrForm},
		{"aag", "0 0 0 0 0 0\n", api.ErrForm},
		{"aag", "aag\n", api.ErrForm},
		{"aag", "aag 0 0 0 0\n", api.ErrForm},
		{"aag", "aag 0 0 0 0 0 0 0 0 0 0\n", api.ErrForm},
		{"aag", "aag\t0 0 0 0 0 0\n", api.ErrForm},
		{"aag", "aag 0 0 0 0 0\r\n", api.ErrForm},
		// The word and the number of numbers come ahead of the numbers.
		{"aag", "aig 2147483648 0 0 0 0\n", api.ErrForm},
		{"aag", "aag 2147483648 0 0 0\n", api.ErrForm},
		{"aag", "aag 2147483648 0 0 0 0 0 0 0 0 0\n", api.ErrForm},
		{"aag", "aag 0 0 0 0 0 0 0 1 0 0\n", api.ErrForm},
		// The numbers, from the left.
		{"aag", "aag x 0 0 0 0\n", api.ErrForm},
		{"aag", "aag 00 0 0 0 0\n", api.ErrForm},
		{"aag", "aag -1 0 0 0 0\n", api.ErrForm},
		{"aag", "aag 2147483648 0 0 0 0\n", api.ErrLimit},
		{"aag", "aag 2147483648 0 0 0 x\n", api.ErrLimit},
		{"aag", "aag x 0 0 0 2147483648\n", api.ErrForm},
		{"aag", "aag 0 0 0 0 0 0 0 2147483648\n", api.ErrLimit},
		{"aag", "aag 0 0 0 0 0 0 0 0 2147483648\n", api.ErrLimit},
		{"aag", "aag 0 0 0 0 0 0 0 x\n", api.ErrForm},
		// The numbers come ahead of justice and fairness.
		{"aag", "aag 0 0 0 0 0 0 0 1 x\n", api.ErrForm},
		{"aag", "aag 0 0 0 0 0 0 0 1 2147483648\n", api.ErrLimit},
		{"aag", "aag 0 0 0 0 0 0 0 1\n", api.ErrOther},
		{"aag", "aag 0 0 0 0 0 0 0 0 1\n", api.ErrOther},
		{"aag", "aag 0 0 0 0 0 0 0 2147483647 2147483647\n", api.ErrOther},
		// Justice and fairness come ahead of the limits.
		{"aag", "aag 16385 0 0 0 0 0 0 1\n", api.ErrOther},
		{"aag", "aag 0 0 0 1025 0 0 0 0 1\n", api.ErrOther},
		{"aag", "aag 0 1 0 0 0 0 0 0 1\n", api.ErrOther},
		{"aag", "aag 16385 0 0 0 0\n", api.ErrLimit},
		{"aag", "aag 2147483647 0 0 0 0\n", api.ErrLimit},
		{"aag", "aag 0 0 0 1025 0\n", api.ErrLimit},
		{"aag", "aag 0 0 0 0 0 1025\n", api.ErrLimit},
		{"aag", "aag 0 0 0 0 0 0 1025\n", api.ErrLimit},
		// The limits come ahead of the sum.
		{"aag", "aag 16385 16386 0 0 0\n", api.ErrLimit},
		{"aag", "aag 0 1 0 0 0 0 1025\n", api.ErrLimit},
		{"aag", "aag 0 1 0 0 0\n", api.ErrForm},
		{"aag", "aag 0 0 1 0 0\n", api.ErrForm},
		{"aag", "aag 0 0 0 0 1\n", api.ErrForm},
		{"aag", "aag 5 1 2 0 3\n", api.ErrForm},
		{"aag", "aag 16384 16385 0 0 0\n", api.ErrForm},
		{"aag", "aag 0 2147483647 2147483647 0 2\n", api.ErrForm},
		{"aag", "aag 1 2147483647 2 0 2147483647\n", api.ErrForm},
	} {
		if l, rest, e := Head(c.word, []byte(c.b)); l != [7]uint32{} || len(rest) > 0 || e != c.e {
			t.Errorf("Head(%q, %q) = %v, %q, %d, not %d", c.word, c.b, l, rest, e, c.e)
		}
	}
}

// P2.2: what Head answers is new memory.
func TestHeadSharesNothing(t *testing.T) {
	const text = "aag 0 0 0 0 0\nrest and spare"
	array := []byte(text)
	_, rest, _ := Head("aag", array[:18])
	rest = rest[:cap(rest)]
	for i := range rest {
		rest[i] = '#'
	}
	if string(array) != text {
		t.Errorf("a change to the rest: %q", array)
	}
	_, rest, _ = Head("aag", array[:18])
	clear(array)
	if string(rest) != "rest" {
		t.Errorf("a change to the argument: %q", rest)
	}
}

// P2.2: Names.
func TestNames(t *testing.T) {
	many := [5]uint32{1, 2, 3, 4, 11}
	for _, c := range []struct {
		b string
		e api.Errno
	}{
		{"", api.OK},
		{"i0 a\n", api.OK},
		{"i0 a b\n", api.OK},
		{"i0  a  \n", api.OK},
		{"i0  \n", api.OK},
		{"i0 ~!\u00e9\xff\x80\n", api.OK},
		{"l1 x\no2 y\nb3 z\nc10 w\n", api.OK},
		{"b3 z\ni0 a\ni0 a\nb3 z\n", api.OK},
		{"c\n", api.OK},
		{"c\nanything\x00 without an end", api.OK},
		{"i0 a\nc\ni9 x\n\n", api.OK},
		{"c0 c\nc\nc", api.OK},
		// A line without an end comes first.
		{"c", api.ErrShort},
		{"i0 a", api.ErrShort},
		{"\x00", api.ErrShort},
		{"i0 a\nx", api.ErrShort},
		{"i0\nx", api.ErrForm},
		{"\n", api.ErrForm},
		{"i0 a\n\nc\n", api.ErrForm},
		// The letter.
		{"a0 x\n", api.ErrForm},
		{"I0 x\n", api.ErrForm},
		{"0 x\n", api.ErrForm},
		{" i0 x\n", api.ErrForm},
		{" x\n", api.ErrForm},
		{"j0 x\n", api.ErrForm},
		{"f0 x\n", api.ErrForm},
		// The index.
		{"i1 x\n", api.ErrForm},
		{"l2 x\n", api.ErrForm},
		{"o3 x\n", api.ErrForm},
		{"b4 x\n", api.ErrForm},
		{"c11 x\n", api.ErrForm},
		{"c x\n", api.ErrForm},
		{"i x\n", api.ErrForm},
		{"i 0 x\n", api.ErrForm},
		{"c01 x\n", api.ErrForm},
		{"i00 x\n", api.ErrForm},
		{"i-0 x\n", api.ErrForm},
		{"i+0 x\n", api.ErrForm},
		{"i0x x\n", api.ErrForm},
		{"i2147483648 x\n", api.ErrForm},
		{"i4294967296 x\n", api.ErrForm},
		{"i18446744073709551616 x\n", api.ErrForm},
		// The bytes.
		{"i0\n", api.ErrForm},
		{"i0 \n", api.ErrForm},
		{"i0\tx\n", api.ErrForm},
		{"i0 \x1f\n", api.ErrForm},
		{"i0 x\x7f\n", api.ErrForm},
		{"i0 x\r\n", api.ErrForm},
		{"i0 \x00\n", api.ErrForm},
		{"i0 \tx\n", api.ErrForm},
		// What is not quite the beginning of the comment.
		{"c \n", api.ErrForm},
		{" c\n", api.ErrForm},
		{"C\n", api.ErrForm},
		{"cc\n", api.ErrForm},
		{"c\r\n", api.ErrForm},
		{"c0\n", api.ErrForm},
	} {
		if e := Names([]byte(c.b), many); e != c.e {
			t.Errorf("Names(%q) = %d, not %d", c.b, e, c.e)
		}
	}
}

// P2.2: the index of each kind is held against that kind's own number, which may be any.
func TestNamesOfKinds(t *testing.T) {
	for i := range 5 {
		for _, n := range []uint32{0, 1, 2, 10, math.MaxInt32, math.MaxUint32} {
			many := [5]uint32{20, 20, 20, 20, 20}
			many[i] = n
			for _, index := range []uint32{0, 1, 2, 9, 10, 19, math.MaxInt32 - 1, math.MaxInt32, 1 << 31, math.MaxUint32 - 1} {
				want := api.ErrForm
				if index < n && index <= math.MaxInt32 {
					want = api.OK
				}
				line := "ilobc"[i:i+1] + strconv.FormatUint(uint64(index), 10) + " x\n"
				if e := Names([]byte(line), many); e != want {
					t.Errorf("Names(%q, %v) = %d, not %d", line, many, e, want)
				}
			}
		}
	}
}

// P2.2: every byte within a name.
func TestNamesOfAllBytes(t *testing.T) {
	for x := range 256 {
		want := api.ErrForm
		if x >= 32 && x != 127 {
			want = api.OK
		}
		for _, name := range [][]byte{{byte(x)}, {'a', byte(x)}, {byte(x), 'a'}} {
			if x == lineEnd {
				continue
			}
			b := append([]byte("i0 "), append(name, lineEnd)...)
			if e := Names(b, [5]uint32{1}); e != want {
				t.Errorf("Names(%q) = %d", b, e)
			}
		}
	}
}

// P2.3: Get of what is well-formed.
func TestGet(t *testing.T) {
	free := api.Raw{Max: 2, Latches: []api.RawLatch{{Lit: 4, Next: 5, Reset: 4}}}
	for _, c := range []struct {
		b    string
		want api.Raw
	}{
		{"aag 0 0 0 0 0\n", api.Raw{}},
		{fullText, full()},
		{fullText + "i1 x\nl2 x\no1 x\nb2 x\nc3 x\nc\nno more", full()},
		{"aag 0 0 0 0 0 0\n", api.Raw{}},
		{"aag 0 0 0 0 0 0 0 0 0\n", api.Raw{}},
		{"aag 0 0 0 0 0\nc\n", api.Raw{}},
		{"aag 0 0 0 0 0\nc\nx\x00", api.Raw{}},
		{"aag 2 0 1 0 0\n4 5\n", api.Raw{Max: 2, Latches: []api.RawLatch{{Lit: 4, Next: 5}}}},
		{"aag 2 0 1 0 0\n4 5 0\n", api.Raw{Max: 2, Latches: []api.RawLatch{{Lit: 4, Next: 5}}}},
		{"aag 2 0 1 0 0\n4 5 1\n", api.Raw{Max: 2, Latches: []api.RawLatch{{Lit: 4, Next: 5, Reset: 1}}}},
		{"aag 2 0 1 0 0\n4 5 4\n", free},
		{"aag 2 0 1 0 0\n5 5 5\n", api.Raw{Max: 2, Latches: []api.RawLatch{{Lit: 5, Next: 5, Reset: 5}}}},
		// What is not checked here: literals that are defined twice, or nowhere, or by themselves.
		{"aag 3 2 0 1 1\n2\n2\n7\n0 5 5\n", api.Raw{Max: 3, Inputs: []uint32{2, 2}, Outputs: []uint32{7}, Gates: []api.RawGate{{Lit: 0, A: 5, B: 5}}}},
	} {
		if r, e := Get([]byte(c.b)); !Same(r, c.want) || e != api.OK {
			t.Errorf("Get(%q) = %v, %d", c.b, r, e)
		}
	}
}

// P2.3: the errors of Get, and which of several comes first.
func TestGetErrors(t *testing.T) {
	for _, c := range []struct {
		b string
		e api.Errno
	}{
		// Those of Head.
		{"", api.ErrShort},
		{"aag 0 0 0 0 0", api.ErrShort},
		{"aig 0 0 0 0 0\n", api.ErrForm},
		{"aag 0 1 0 0 0\n", api.ErrForm},
		{"aag 16385 0 0 0 0\n", api.ErrLimit},
		{"aag 0 0 0 0 0 0 0 1\n", api.ErrOther},
		{"aag 0 0 0 0 0 0 0 1\nx", api.ErrOther},
		// A line that is missing, or has no end, of each kind.
		{"aag 1 1 0 0 0\n", api.ErrShort},
		{"aag 1 1 0 0 0\n2", api.ErrShort},
		{"aag 1 1 0 0 0\nx", api.ErrShort},
		{"aag 1 0 1 0 0\n2 2", api.ErrShort},
		{"aag 1 0 0 1 0\n2", api.ErrShort},
		{"aag 1 0 0 0 0 1\n2", api.ErrShort},
		{"aag 1 0 0 0 0 0 1\n2", api.ErrShort},
		{"aag 1 0 0 0 1\n2 2 2", api.ErrShort},
		{"aag 2 2 0 0 0\n2\n", api.ErrShort},
		// Too few or too many words, of each kind.
		{"aag 1 1 0 0 0\n\n", api.ErrForm},
		{"aag 1 1 0 0 0\n2 2\n", api.ErrForm},
		{"aag 1 0 1 0 0\n2\n", api.ErrForm},
		{"aag 1 0 1 0 0\n2 2 0 0\n", api.ErrForm},
		{"aag 1 0 0 1 0\n\n", api.ErrForm},
		{"aag 1 0 0 1 0\n2 2\n", api.ErrForm},
		{"aag 1 0 0 0 0 1\n\n", api.ErrForm},
		{"aag 1 0 0 0 0 1\n2 2\n", api.ErrForm},
		{"aag 1 0 0 0 0 0 1\n\n", api.ErrForm},
		{"aag 1 0 0 0 0 0 1\n2 2\n", api.ErrForm},
		{"aag 1 0 0 0 1\n2 2\n", api.ErrForm},
		{"aag 1 0 0 0 1\n2 2 2 2\n", api.ErrForm},
		{"aag 1 1 0 0 0\n2 \n", api.ErrForm},
		{"aag 1 0 0 0 1\n2  2\n", api.ErrForm},
		// A literal that is too great, of each kind.
		{"aag 1 1 0 0 0\n4\n", api.ErrLimit},
		{"aag 1 0 1 0 0\n4 2\n", api.ErrLimit},
		{"aag 1 0 1 0 0\n2 4\n", api.ErrLimit},
		{"aag 1 0 1 0 0\n2 2 4\n", api.ErrLimit},
		{"aag 1 0 0 1 0\n4\n", api.ErrLimit},
		{"aag 0 0 0 1 0\n2\n", api.ErrLimit},
		{"aag 1 0 0 0 0 1\n4\n", api.ErrLimit},
		{"aag 1 0 0 0 0 0 1\n4\n", api.ErrLimit},
		{"aag 1 0 0 0 1\n4 2 2\n", api.ErrLimit},
		{"aag 1 0 0 0 1\n2 4 2\n", api.ErrLimit},
		{"aag 1 0 0 0 1\n2 2 4\n", api.ErrLimit},
		{"aag 1 1 0 0 0\n4294967298\n", api.ErrLimit},
		// No numbers.
		{"aag 1 1 0 0 0\nx\n", api.ErrForm},
		{"aag 1 1 0 0 0\n02\n", api.ErrForm},
		{"aag 1 0 0 0 1\n2 2 -2\n", api.ErrForm},
		{"aag 1 1 0 0 0\n2\r\n", api.ErrForm},
		// The first of several, within a line and from line to line.
		{"aag 1 0 0 0 1\n2 4 x\n", api.ErrLimit},
		{"aag 1 0 0 0 1\n2 x 4\n", api.ErrForm},
		{"aag 2 2 0 0 0\n6\nx\n", api.ErrLimit},
		{"aag 2 2 0 0 0\nx\n6\n", api.ErrForm},
		{"aag 2 2 0 0 0\n6\n2", api.ErrLimit},
		{"aag 2 1 1 0 0\n6\n2 x\n", api.ErrLimit},
		{"aag 1 0 1 1 0\n2 2 3\n9\n", api.ErrForm},
		{"aag 1 0 0 1 0 1\n9\nx\n", api.ErrLimit},
		{"aag 1 0 0 0 0 1 1\nx\n9\n", api.ErrForm},
		{"aag 1 0 0 0 1 0 1\n9\nx x x\n", api.ErrLimit},
		// Resets.
		{"aag 2 0 1 0 0\n2 2 3\n", api.ErrForm},
		{"aag 2 0 1 0 0\n2 4 4\n", api.ErrForm},
		{"aag 2 0 2 0 0\n2 2\n4 4 2\n", api.ErrForm},
		{"aag 2 0 1 0 0\n2 6 3\n", api.ErrLimit},
		{"aag 2 0 1 0 0\n2 4 6\n", api.ErrLimit},
		{"aag 2 0 1 0 0\n2 4 00\n", api.ErrForm},
		// Those of Names.
		{"aag 1 1 0 0 0\n2\ni0", api.ErrShort},
		{"aag 1 1 0 0 0\n2\nc", api.ErrShort},
		{"aag 1 1 0 0 0\n2\n\n", api.ErrForm},
		{"aag 1 1 0 0 0\n2\n2\n", api.ErrForm},
		{"aag 1 1 0 0 0\n9\nx\n", api.ErrLimit},
		{fullText + "i2 x\n", api.ErrForm},
		{fullText + "l3 x\n", api.ErrForm},
		{fullText + "o2 x\n", api.ErrForm},
		{fullText + "b3 x\n", api.ErrForm},
		{fullText + "c4 x\n", api.ErrForm},
		{fullText + "a0 x\n", api.ErrForm},
	} {
		if r, e := Get([]byte(c.b)); !Same(r, api.Raw{}) || e != c.e {
			t.Errorf("Get(%q) = %v, %d, not %d", c.b, r, e, c.e)
		}
	}
}

// P2.3: the limit of bytes, which comes ahead of everything else.
func TestGetLimit(t *testing.T) {
	for _, c := range []struct {
		b, more string
		e       api.Errno
	}{
		{"aag 0 0 0 0 0\nc\n", "x", api.OK},
		{"aag 0 0 0 0 0\nc", "x", api.ErrShort},
		{"x", "x", api.ErrShort},
		{"\n", " ", api.ErrForm},
		{"aag 0 0 0 0 0 0 0 1\n", "x", api.ErrOther},
	} {
		b := []byte(c.b + strings.Repeat(c.more, api.MaxBytes+1-len(c.b)))
		if r, e := Get(b[:api.MaxBytes]); !Same(r, api.Raw{}) || e != c.e {
			t.Errorf("Get(%.30q and as much as there may be) = %v, %d", b, r, e)
		}
		if r, e := Get(b); !Same(r, api.Raw{}) || e != api.ErrLimit {
			t.Errorf("Get(%.30q and more than there may be) = %v, %d", b, r, e)
		}
	}
}

// P2.3: as many names as there may be bytes.
func TestGetManyNames(t *testing.T) {
	const head, name = "aag 1 1 0 0 0\n2\n", "i0 x\n"
	text := head + strings.Repeat(name, (api.MaxBytes-len(head))/len(name))
	want := api.Raw{Max: 1, Inputs: []uint32{2}}
	if r, e := Get([]byte(text)); !Same(r, want) || e != api.OK {
		t.Errorf("Get = %v, %d", r, e)
	}
	if r, e := Get([]byte(text[:len(text)-1])); !Same(r, api.Raw{}) || e != api.ErrShort {
		t.Errorf("Get without the last line's end = %v, %d", r, e)
	}
	if r, e := Get([]byte(text[:len(text)-2] + "\n")); !Same(r, api.Raw{}) || e != api.ErrForm {
		t.Errorf("Get without the last name = %v, %d", r, e)
	}
}

// P2.3: Get changes neither its argument nor its spare capacity, and no two lists of its result share memory.
func TestGetSharesNothing(t *testing.T) {
	array := []byte(fullText + "spare")
	r, e := Get(array[:len(fullText)])
	if e != api.OK || string(array) != fullText+"spare" {
		t.Fatalf("Get: %d; argument %q", e, array)
	}
	clear(array)
	if !Same(r, full()) {
		t.Errorf("a change to the argument: %v", r)
	}
	for i := range 6 {
		r, _ := Get([]byte(fullText))
		want := full()
		if i == 4 {
			clear(r.Latches[:cap(r.Latches)])
			clear(want.Latches)
		} else if i == 5 {
			clear(r.Gates[:cap(r.Gates)])
			clear(want.Gates)
		} else {
			list := [][]uint32{r.Inputs, r.Outputs, r.Bads, r.Constraints}[i]
			clear(list[:cap(list)])
			clear([][]uint32{want.Inputs, want.Outputs, want.Bads, want.Constraints}[i])
		}
		if !Same(r, want) {
			t.Errorf("a change to list %d: %v", i, r)
		}
	}
}

// P2.4: what was written is read as itself.
func TestWrittenIsRead(t *testing.T) {
	list := []api.Raw{{}, full(), widest()}
	for most := range uint32(4) {
		list = append(list, someOf(most)...)
	}
	for _, r := range list {
		b, e := Put(r)
		if e != api.OK {
			t.Fatalf("Put(%v): %d", r, e)
		}
		if got, e := Get(b); !Same(got, r) || e != api.OK {
			t.Errorf("%.200q was read as %v, %d", b, got, e)
		}
	}
}

// someOf answers raw circuits with every number of items of each kind up to two, as far as most variables go.
func someOf(most uint32) []api.Raw {
	var list []api.Raw
	lits := 2*most + 2
	next := uint32(0)
	lit := func() uint32 {
		next = (5*next + 3) % lits
		return next
	}
	for n := range 729 {
		r := api.Raw{Max: most}
		for range n % 3 {
			r.Inputs = append(r.Inputs, lit())
		}
		for i := range n / 3 % 3 {
			l := api.RawLatch{Lit: lit(), Next: lit()}
			l.Reset = []uint32{0, 1, l.Lit}[(n+i)%3]
			r.Latches = append(r.Latches, l)
		}
		for range n / 9 % 3 {
			r.Gates = append(r.Gates, api.RawGate{Lit: lit(), A: lit(), B: lit()})
		}
		for range n / 27 % 3 {
			r.Outputs = append(r.Outputs, lit())
		}
		for range n / 81 % 3 {
			r.Bads = append(r.Bads, lit())
		}
		for range n / 243 {
			r.Constraints = append(r.Constraints, lit())
		}
		if len(r.Inputs)+len(r.Latches)+len(r.Gates) <= int(most) {
			list = append(list, r)
		}
	}
	return list
}

// P2.3 and P2.4: a text with one byte changed, dropped or doubled is refused, or is read as a valid raw circuit, which is written and read as itself.
func TestSpoiledTexts(t *testing.T) {
	text := fullText + "i1 x y\nb0 z\nc\nend"
	var read, refused int
	try := func(b string) {
		r, e := Get([]byte(b))
		if e != api.OK {
			refused++
			if !Same(r, api.Raw{}) {
				t.Errorf("Get(%q) = %v beside %d", b, r, e)
			}
			return
		}
		read++
		if !May(r) {
			t.Errorf("Get(%q) = %v, which is not valid", b, r)
		}
		again, _ := Put(r)
		if s, e := Get(again); !Same(r, s) || e != api.OK {
			t.Errorf("Get(%q) = %v, which was read as %v, %d", b, r, s, e)
		}
	}
	for i := range len(text) {
		try(text[:i])
		try(text[:i] + text[i+1:])
		try(text[:i+1] + text[i:])
		for _, x := range []string{"0", "1", "2", "7", "9", " ", "\n", "-", "c", "i", "\x00", "\xff"} {
			try(text[:i] + x + text[i+1:])
		}
	}
	if read < 100 || refused < 100 {
		t.Errorf("%d texts were read, %d were refused", read, refused)
	}
}

// The chapter's table of examples.
func TestExamples(t *testing.T) {
	lines := func(s string) []byte { return []byte(strings.ReplaceAll(s, "/", "\n")) }
	for _, c := range []struct {
		b    string
		want api.Raw
		e    api.Errno
	}{
		{"aag 3 1 1 0 1 1/2/4 6 4/6/6 4 2/", api.Raw{Max: 3, Inputs: []uint32{2}, Latches: []api.RawLatch{{Lit: 4, Next: 6, Reset: 4}}, Bads: []uint32{6}, Gates: []api.RawGate{{Lit: 6, A: 4, B: 2}}}, api.OK},
		{"aag 1 1 0 0 0/3/", api.Raw{Max: 1, Inputs: []uint32{3}}, api.OK},
		{"aag 1 1 0 0 0/2", api.Raw{}, api.ErrShort},
		{"aag 1 1 0 0 0/4/", api.Raw{}, api.ErrLimit},
		{"aag 1 2 0 0 0/", api.Raw{}, api.ErrForm},
		{"aig 0 0 0 0 0/", api.Raw{}, api.ErrForm},
		{"aag 0 0 0 0 0 0 0 1/", api.Raw{}, api.ErrOther},
		{"aag 1 1 0 0 0/2/i0 a b/c/what", api.Raw{Max: 1, Inputs: []uint32{2}}, api.OK},
		{"aag 1 1 0 0 0/2/i1 a/", api.Raw{}, api.ErrForm},
	} {
		if r, e := Get(lines(c.b)); !Same(r, c.want) || e != c.e {
			t.Errorf("Get(%q) = %v, %d", c.b, r, e)
		}
	}
}
