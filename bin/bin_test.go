package bin

import (
	"bytes"
	"math"
	"slices"
	"strconv"
	"strings"
	"testing"

	"inquest/api"
	"inquest/norm"
	"inquest/raw"
	"inquest/sample"
)

// full has something of each kind, and each of the resets: inputs 1 and 2, latches 3 to 5, gates 6 to 8.
func full() api.Circuit {
	return api.Circuit{
		Inputs:      2,
		Latches:     []api.Latch{{Next: 12}, {Next: 15, Reset: 1}, {Next: 0, Reset: api.X}},
		Gates:       []api.Gate{{A: 4, B: 2}, {A: 13, B: 11}, {A: 14, B: 1}},
		Outputs:     []uint32{16, 3},
		Bads:        []uint32{17, 0, 5},
		Constraints: []uint32{1, 6, 9, 14},
	}
}

const (
	fullLines = "aig 8 2 3 2 3 3 4\n12\n15 1\n0 10\n16\n3\n17\n0\n5\n1\n6\n9\n14\n"
	fullGates = "\x08\x02\x01\x02\x02\x0d"
)

// with answers full after a change.
func with(change func(*api.Circuit)) api.Circuit {
	c := full()
	change(&c)
	return c
}

func repeat[T any](x T, n int) []T { return slices.Repeat([]T{x}, n) }

// widest has as much of everything as there may be, and the longest numbers.
func widest() api.Circuit {
	const lit = 2*api.MaxVars + 1
	return api.Circuit{
		Inputs:      4,
		Latches:     repeat(api.Latch{Next: lit, Reset: api.X}, 10000),
		Gates:       repeat(api.Gate{A: 2*10004 + 1, B: 0}, api.MaxVars-10004),
		Outputs:     repeat(uint32(lit), api.MaxList),
		Bads:        repeat(uint32(lit), api.MaxList),
		Constraints: repeat(uint32(lit), api.MaxList),
	}
}

// wires answers a circuit of as many inputs, and gates.
func wires(inputs int, gates ...api.Gate) api.Circuit {
	return api.Circuit{Inputs: inputs, Gates: gates}
}

// P4.1: Put.
func TestPut(t *testing.T) {
	for _, c := range []struct {
		what string
		c    api.Circuit
		want string
	}{
		{"nothing", api.Circuit{}, "aig 0 0 0 0 0\n"},
		{"everything", full(), fullLines + fullGates},
		{"inputs have no lines", wires(3), "aig 3 3 0 0 0\n"},
		{"as many inputs as there may be", wires(api.MaxVars), "aig 16384 16384 0 0 0\n"},
		{"Reset 0", api.Circuit{Latches: []api.Latch{{Next: 3}}}, "aig 1 0 1 0 0\n3\n"},
		{"Reset 1", api.Circuit{Latches: []api.Latch{{Next: 3, Reset: 1}}}, "aig 1 0 1 0 0\n3 1\n"},
		{"free latches", api.Circuit{Inputs: 1, Latches: []api.Latch{{Next: 2, Reset: api.X}, {Next: 1, Reset: api.X}}}, "aig 3 1 2 0 0\n2 4\n1 6\n"},
		{"an output", api.Circuit{Outputs: []uint32{1}}, "aig 0 0 0 1 0\n1\n"},
		{"a bad literal", api.Circuit{Bads: []uint32{0}}, "aig 0 0 0 0 0 1\n0\n"},
		{"a constraint", api.Circuit{Constraints: []uint32{0}}, "aig 0 0 0 0 0 0 1\n0\n"},
		{"the least first delta", wires(1, api.Gate{A: 3, B: 3}), "aig 2 1 0 0 1\n\x01\x00"},
		{"a gate of constants", wires(0, api.Gate{A: 1, B: 0}, api.Gate{A: 0, B: 0}), "aig 2 0 0 0 2\n\x01\x01\x04\x00"},
		{"a delta of one byte", wires(63, api.Gate{A: 127, B: 0}), "aig 64 63 0 0 1\n\x01\x7f"},
		{"a delta of two bytes", wires(63, api.Gate{A: 0, B: 0}), "aig 64 63 0 0 1\n\x80\x01\x00"},
		{"more than one part is used", wires(100, api.Gate{A: 130, B: 0}), "aig 101 100 0 0 1\n\x48\x82\x01"},
		{"two bytes at most", wires(8191, api.Gate{A: 16383, B: 0}), "aig 8192 8191 0 0 1\n\x01\xff\x7f"},
		{"a delta of three bytes", wires(8191, api.Gate{A: 0, B: 0}), "aig 8192 8191 0 0 1\n\x80\x80\x01\x00"},
		{"the greatest delta", wires(16383, api.Gate{A: 0, B: 0}), "aig 16384 16383 0 0 1\n\x80\x80\x02\x00"},
	} {
		if b, e := Put(c.c); string(b) != c.want || e != api.OK {
			t.Errorf("%s: Put = %q, %d", c.what, b, e)
		}
	}
}

// P4.1: Put of what is not valid.
func TestPutErrors(t *testing.T) {
	for _, c := range []struct {
		what string
		c    api.Circuit
	}{
		{"negative Inputs", api.Circuit{Inputs: -1}},
		{"the greatest Inputs", api.Circuit{Inputs: math.MaxInt}},
		{"too many inputs", wires(api.MaxVars + 1)},
		{"too many of all kinds", with(func(c *api.Circuit) { c.Inputs = api.MaxVars - 5 })},
		{"Next is no variable", with(func(c *api.Circuit) { c.Latches[0].Next = 18 })},
		{"Reset 3", with(func(c *api.Circuit) { c.Latches[0].Reset = 3 })},
		{"A is less than B", with(func(c *api.Circuit) { c.Gates[0] = api.Gate{A: 2, B: 4} })},
		{"A is the gate's own", with(func(c *api.Circuit) { c.Gates[0].A = 12 })},
		{"A is the gate's own, negated", with(func(c *api.Circuit) { c.Gates[0].A = 13 })},
		{"A is no variable", with(func(c *api.Circuit) { c.Gates[0].A = math.MaxUint32 })},
		{"an output of no variable", with(func(c *api.Circuit) { c.Outputs[0] = 18 })},
		{"a bad literal of no variable", with(func(c *api.Circuit) { c.Bads[0] = 18 })},
		{"a constraint of no variable", with(func(c *api.Circuit) { c.Constraints[0] = 18 })},
		{"too many outputs", api.Circuit{Outputs: make([]uint32, api.MaxList+1)}},
		{"too many bad literals", api.Circuit{Bads: make([]uint32, api.MaxList+1)}},
		{"too many constraints", api.Circuit{Constraints: make([]uint32, api.MaxList+1)}},
	} {
		if b, e := Put(c.c); len(b) > 0 || e != api.ErrArg {
			t.Errorf("%s: Put = %q, %d", c.what, b, e)
		}
	}
}

// spoil overwrites a list and its spare capacity.
func spoil[T any](l []T) { clear(l[:cap(l)]) }

// P4.1: Put answers new memory, and touches neither its argument nor its spare capacity.
func TestPutSharesNothing(t *testing.T) {
	c := full()
	c.Bads = append(make([]uint32, 0, 9), c.Bads...)
	c.Gates = append(make([]api.Gate, 0, 9), c.Gates...)
	b, _ := Put(c)
	if !norm.Same(c, full()) || !slices.Equal(c.Bads[3:9], make([]uint32, 6)) || !slices.Equal(c.Gates[3:9], make([]api.Gate, 6)) {
		t.Errorf("the argument was changed: %v", c)
	}
	spoil(b)
	if b, e := Put(c); string(b) != fullLines+fullGates || e != api.OK {
		t.Errorf("a change to a result: Put = %q, %d", b, e)
	}
}

// P4.1: Step.
func TestStep(t *testing.T) {
	for _, c := range []struct {
		b    string
		n    uint32
		rest string
		e    api.Errno
	}{
		{"\x00", 0, "", api.OK},
		{"\x00\x00", 0, "\x00", api.OK},
		{"\x01", 1, "", api.OK},
		{"\x7f\xff", 127, "\xff", api.OK},
		{"\x80\x01", 128, "", api.OK},
		{"\x82\x01", 130, "", api.OK},
		{"\xff\x7frest", 16383, "rest", api.OK},
		{"\x80\x80\x01", 16384, "", api.OK},
		{"\xff\xff\x7f\n", 1<<21 - 1, "\n", api.OK},
		{"\x80\x80\x80\x01", 1 << 21, "", api.OK},
		{"\xff\xff\xff\x7f\x80", 1<<28 - 1, "\x80", api.OK},
		{"\x80\x80\x80\x80\x01", 1 << 28, "", api.OK},
		{"\x80\x80\x80\x80\x0f", 15 << 28, "", api.OK},
		{"\xff\xff\xff\xff\x0f\xff", math.MaxUint32, "\xff", api.OK},
		{"\x81\x82\x83\x84\x05", 1 + 2<<7 + 3<<14 + 4<<21 + 5<<28, "", api.OK},
		// The end comes too soon.
		{"", 0, "", api.ErrShort},
		{"\x80", 0, "", api.ErrShort},
		{"\xff\xff", 0, "", api.ErrShort},
		{"\x80\x80\x80\x80", 0, "", api.ErrShort},
		{"\xff\xff\xff\xff", 0, "", api.ErrShort},
		// The number is too great.
		{"\x80\x80\x80\x80\x10", 0, "", api.ErrForm},
		{"\xff\xff\xff\xff\x10", 0, "", api.ErrForm},
		{"\x80\x80\x80\x80\x7f", 0, "", api.ErrForm},
		// A fifth byte says that another one follows, whether one does or not.
		{"\x80\x80\x80\x80\x80", 0, "", api.ErrForm},
		{"\x80\x80\x80\x80\x81", 0, "", api.ErrForm},
		{"\x80\x80\x80\x80\x80\x01", 0, "", api.ErrForm},
		{"\x81\x80\x80\x80\x80\x00", 0, "", api.ErrForm},
		{"\xff\xff\xff\xff\x8f\x01", 0, "", api.ErrForm},
		{"\xff\xff\xff\xff\xff", 0, "", api.ErrForm},
		// The last byte is 0.
		{"\x80\x00", 0, "", api.ErrForm},
		{"\xff\x00\x01", 0, "", api.ErrForm},
		{"\x80\x80\x00", 0, "", api.ErrForm},
		{"\x81\x80\x80\x00", 0, "", api.ErrForm},
		{"\xff\xff\xff\xff\x00", 0, "", api.ErrForm},
	} {
		if n, rest, e := Step([]byte(c.b)); n != c.n || string(rest) != c.rest || e != c.e {
			t.Errorf("Step(%q) = %d, %q, %d", c.b, n, rest, e)
		}
	}
	if n, rest, e := Step(nil); n != 0 || len(rest) > 0 || e != api.ErrShort {
		t.Errorf("Step(nil) = %d, %q, %d", n, rest, e)
	}
}

// judgeStep tells by multiplication what Step has to answer; used is how many bytes belong to the number.
func judgeStep(b []byte) (n uint32, used int, e api.Errno) {
	sum, weight := uint64(0), uint64(1)
	for used < len(b) {
		x := uint64(b[used])
		used++
		sum += x % 128 * weight
		weight *= 128
		switch {
		case sum >= 1<<32, used == 5 && x >= 128, used > 1 && x == 0:
			return 0, 0, api.ErrForm
		case x < 128:
			return uint32(sum), used, api.OK
		}
	}
	return 0, 0, api.ErrShort
}

// P4.1: Step of all short rows of bytes from the edges, held against the chapter's words.
func TestStepOfAllShortBytes(t *testing.T) {
	edges := []byte{0x00, 0x01, 0x0f, 0x10, 0x7f, 0x80, 0x8f, 0xff}
	var grow func(b []byte)
	grow = func(b []byte) {
		n, used, e := judgeStep(b)
		if got, rest, f := Step(b); got != n || f != e || e == api.OK && !bytes.Equal(rest, b[used:]) || e != api.OK && len(rest) > 0 {
			t.Errorf("Step(%q) = %d, %q, %d, not %d, %d", b, got, rest, f, n, e)
		}
		if len(b) == 6 {
			return
		}
		for _, x := range edges {
			grow(append(slices.Clip(b), x))
		}
	}
	grow(nil)
}

// P4.1, P4.4: numbers of every length, as deltas in the least number of bytes, are read by Step.
func TestStepReadsWhatIsWritten(t *testing.T) {
	for i := range 33 {
		for _, off := range []int64{-1, 0, 1} {
			n := int64(1)<<i + off
			if n > math.MaxUint32 {
				continue
			}
			var b []byte
			for x := n; ; x /= 128 {
				if x < 128 {
					b = append(b, byte(x))
					break
				}
				b = append(b, byte(128+x%128))
			}
			if got, rest, e := Step(append(b, 7)); int64(got) != n || string(rest) != "\x07" || e != api.OK {
				t.Errorf("Step(%q) = %d, %q, %d", b, got, rest, e)
			}
			if got := appendDelta(nil, uint32(n)); !bytes.Equal(got, b) {
				t.Errorf("%d was written as %q", n, got)
			}
		}
	}
}

// P4.1: what Step answers is new memory.
func TestStepSharesNothing(t *testing.T) {
	const text = "\x82\x01rest and spare"
	array := []byte(text)
	_, rest, _ := Step(array[:6])
	spoil(rest)
	if string(array) != text {
		t.Errorf("a change to the rest: %q", array)
	}
	_, rest, _ = Step(array[:6])
	spoil(array)
	if string(rest) != "rest" {
		t.Errorf("a change to the argument: %q", rest)
	}
}

// P4.2: Get of what is well-formed, beside what Put answers.
func TestGet(t *testing.T) {
	free := api.Circuit{Inputs: 1, Latches: []api.Latch{{Next: 2, Reset: api.X}}}
	for _, c := range []struct {
		what string
		b    string
		want api.Circuit
	}{
		{"nothing", "aig 0 0 0 0 0\n", api.Circuit{}},
		{"everything", fullLines + fullGates, full()},
		{"zeros of the first line", "aig 1 1 0 0 0 0 0 0 0\n", wires(1)},
		{"Reset 0 is written", "aig 1 0 1 0 0\n3 0\n", api.Circuit{Latches: []api.Latch{{Next: 3}}}},
		{"a free latch", "aig 2 1 1 0 0\n2 4\n", free},
		{"literals of variable 0", "aig 0 0 0 1 0 1 1\n1\n0\n1\n", api.Circuit{Outputs: []uint32{1}, Bads: []uint32{0}, Constraints: []uint32{1}}},
		{"the greatest literals", "aig 1 1 0 1 0 1 1\n3\n3\n3\n", api.Circuit{Inputs: 1, Outputs: []uint32{3}, Bads: []uint32{3}, Constraints: []uint32{3}}},
		{"a Next that is a gate", "aig 2 0 1 0 1\n5\n\x02\x00", api.Circuit{Latches: []api.Latch{{Next: 5}}, Gates: []api.Gate{{A: 2, B: 2}}}},
		{"down to 0 at once", "aig 2 1 0 0 1\n\x04\x00", wires(1, api.Gate{})},
		{"down to 0 in the end", "aig 2 1 0 0 1\n\x01\x03", wires(1, api.Gate{A: 3, B: 0})},
		// Bytes of gates that look like lines, blanks and names.
		{"deltas that are line ends", "aig 12 10 0 0 2\n\x0a\x0a\x0a\x0a", wires(10, api.Gate{A: 12, B: 2}, api.Gate{A: 14, B: 4})},
		{"deltas that are letters", "aig 100 99 0 0 1\nc\n", wires(99, api.Gate{A: 101, B: 91})},
		{"a name", "aig 1 1 0 0 0\ni0 a b\n", wires(1)},
		{"a name of each kind", "aig 3 1 1 1 1 1 1\n4\n5\n6\n1\n\x01\x00i0 a\nl0 b\no0 c\nb0 d\nc0 e\n", api.Circuit{
			Inputs: 1, Latches: []api.Latch{{Next: 4}}, Gates: []api.Gate{{A: 5, B: 5}}, Outputs: []uint32{5}, Bads: []uint32{6}, Constraints: []uint32{1}}},
		{"names and a comment", "aig 2 1 0 0 1\n\x01\x01i0 x\nc\ni9 without an end", wires(1, api.Gate{A: 3, B: 2})},
		{"a comment", "aig 0 0 0 0 0\nc\n\x00\xff", api.Circuit{}},
	} {
		got, e := Get([]byte(c.b))
		if !norm.Same(got, c.want) || e != api.OK || !norm.May(got) {
			t.Errorf("%s: Get = %v, %d", c.what, got, e)
		}
		if got, e := Any([]byte(c.b)); !norm.Same(got, c.want) || e != api.OK {
			t.Errorf("%s: Any = %v, %d", c.what, got, e)
		}
	}
}

// binaryErrors are what Get and Any refuse alike, with the error that comes first.
var binaryErrors = []struct {
	b string
	e api.Errno
}{
	// The first line.
	{"", api.ErrShort},
	{"aig 0 0 0 0 0", api.ErrShort},
	{"\n", api.ErrForm},
	{"aig\n", api.ErrForm},
	{"aig 0 0 0 0\n", api.ErrForm},
	{"aig  0 0 0 0 0\n", api.ErrForm},
	{" aig 0 0 0 0 0\n", api.ErrForm},
	{"aigg 0 0 0 0 0\n", api.ErrForm},
	{"AIG 0 0 0 0 0\n", api.ErrForm},
	{"aag\n", api.ErrForm},
	{"aag", api.ErrShort},
	{"aag\t0 0 0 0 0\n", api.ErrForm},
	{" aag 0 0 0 0 0\n", api.ErrForm},
	{"aig x 0 0 0 0\n", api.ErrForm},
	{"aig 2147483648 0 0 0 0\n", api.ErrLimit},
	{"aig 16385 16385 0 0 0\n", api.ErrLimit},
	{"aig 0 0 0 1025 0\n", api.ErrLimit},
	{"aig 0 0 0 0 0 0 0 1\n", api.ErrOther},
	{"aig 0 0 0 0 0 0 0 0 1\n", api.ErrOther},
	{"aig 1 1 1 0 0\n0\n", api.ErrForm},
	// Max is the number of variables.
	{"aig 1 0 0 0 0\n", api.ErrForm},
	{"aig 2 1 0 0 0\n", api.ErrForm},
	{"aig 4 1 1 0 1\n0\n\x01\x00", api.ErrForm},
	{"aig 16384 16383 0 0 0\n", api.ErrForm},
	{"aig 1 0 0 1 0\n", api.ErrForm},
	// Latches.
	{"aig 1 0 1 0 0\n", api.ErrShort},
	{"aig 1 0 1 0 0\n3", api.ErrShort},
	{"aig 2 0 2 0 0\n3\n", api.ErrShort},
	{"aig 1 0 1 0 0\n\n", api.ErrForm},
	{"aig 1 0 1 0 0\n3 \n", api.ErrForm},
	{"aig 1 0 1 0 0\n3  1\n", api.ErrForm},
	{"aig 1 0 1 0 0\n3 0 0\n", api.ErrForm},
	{"aig 1 0 1 0 0\n2 3 1\n", api.ErrForm},
	{"aig 1 0 1 0 0\n03\n", api.ErrForm},
	{"aig 1 0 1 0 0\nx\n", api.ErrForm},
	{"aig 1 0 1 0 0\n4\n", api.ErrLimit},
	{"aig 1 0 1 0 0\n4 x\n", api.ErrLimit},
	{"aig 1 0 1 0 0\nx 4\n", api.ErrForm},
	{"aig 1 0 1 0 0\n4294967296\n", api.ErrLimit},
	{"aig 1 0 1 0 0\n3 3\n", api.ErrForm},
	{"aig 1 0 1 0 0\n3 4\n", api.ErrLimit},
	{"aig 1 0 1 0 0\n3 -1\n", api.ErrForm},
	{"aig 2 1 1 0 0\n3 2\n", api.ErrForm},
	{"aig 2 1 1 0 0\n3 3\n", api.ErrForm},
	{"aig 2 1 1 0 0\n3 5\n", api.ErrForm},
	{"aig 2 0 2 0 0\n0 2\n0 2\n", api.ErrForm},
	{"aig 2 0 2 0 0\n0 4\n0 4\n", api.ErrForm},
	// Outputs, bad literals and constraints.
	{"aig 0 0 0 1 0\n", api.ErrShort},
	{"aig 0 0 0 1 0\n2\n", api.ErrLimit},
	{"aig 0 0 0 1 0\n0 0\n", api.ErrForm},
	{"aig 0 0 0 1 0\n\n", api.ErrForm},
	{"aig 0 0 0 0 0 1\n0", api.ErrShort},
	{"aig 0 0 0 0 0 1\n2\n", api.ErrLimit},
	{"aig 0 0 0 0 0 1\n0 1\n", api.ErrForm},
	{"aig 0 0 0 0 0 0 1\n", api.ErrShort},
	{"aig 0 0 0 0 0 0 1\n2\n", api.ErrLimit},
	{"aig 0 0 0 0 0 0 1\n+0\n", api.ErrForm},
	// Gates.
	{"aig 2 1 0 0 1\n", api.ErrShort},
	{"aig 2 1 0 0 1\n\x01", api.ErrShort},
	{"aig 2 1 0 0 1\n\x80", api.ErrShort},
	{"aig 2 1 0 0 1\n\x01\x80", api.ErrShort},
	{"aig 3 1 0 0 2\n\x01\x00", api.ErrShort},
	{"aig 2 1 0 0 1\n\x00\x00", api.ErrForm},
	{"aig 2 1 0 0 1\n\x05\x00", api.ErrForm},
	{"aig 2 1 0 0 1\n\x01\x04", api.ErrForm},
	{"aig 2 1 0 0 1\n\x04\x01", api.ErrForm},
	{"aig 2 1 0 0 1\n\x81\x00\x00", api.ErrForm},
	{"aig 2 1 0 0 1\n\x01\x80\x00", api.ErrForm},
	{"aig 2 1 0 0 1\n\x80\x80\x80\x80\x10\x00", api.ErrForm},
	{"aig 2 1 0 0 1\n\x80\x80\x80\x80\x80", api.ErrForm},
	{"aig 2 1 0 0 1\n\x84\x80\x80\x80\x08\x00", api.ErrForm},
	{"aig 2 1 0 0 1\n\xff\xff\xff\xff\x0f\x00", api.ErrForm},
	{"aig 2 1 0 0 1\n\x01\xff\xff\xff\xff\x0f", api.ErrForm},
	{"aig 3 1 0 0 2\n\x01\x00\x00\x00", api.ErrForm},
	{"aig 3 1 0 0 2\n\x01\x00\x07\x00", api.ErrForm},
	// Names and the comment.
	{"aig 0 0 0 0 0\n\n", api.ErrForm},
	{"aig 0 0 0 0 0\ni0 a\n", api.ErrForm},
	{"aig 1 1 0 0 0\ni1 a\n", api.ErrForm},
	{"aig 1 1 0 0 0\nl0 a\n", api.ErrForm},
	{"aig 1 0 1 0 0\n0\no0 a\n", api.ErrForm},
	{"aig 0 0 0 1 0\n0\nb0 a\n", api.ErrForm},
	{"aig 0 0 0 0 0 1\n0\nc0 a\n", api.ErrForm},
	{"aig 0 0 0 0 0 0 1\n0\ni0 a\n", api.ErrForm},
	{"aig 2 1 0 0 1\n\x01\x00i1 a\n", api.ErrForm},
	{"aig 1 1 0 0 0\n2\n", api.ErrForm},
	{"aig 1 1 0 0 0\ni0 a", api.ErrShort},
	{"aig 1 1 0 0 0\nc", api.ErrShort},
	{"aig 2 1 0 0 1\n\x01\x00\x00", api.ErrShort},
	// Of several errors, the one that comes first.
	{"aig 2147483648 1 0 0 0 0 0 1\n", api.ErrLimit},
	{"aig 2 1 0 1 0\n9\n", api.ErrForm},
	{"aig 2 0 2 0 0\n3 3\n9\n", api.ErrForm},
	{"aig 2 0 2 0 0\n9\n3 3\n", api.ErrLimit},
	{"aig 2 0 2 0 0\n3 3\n", api.ErrForm},
	{"aig 1 0 1 1 0\n3 3\n9\n", api.ErrForm},
	{"aig 0 0 0 1 0 1\n2\nx\n", api.ErrLimit},
	{"aig 0 0 0 1 0 1\nx\n2\n", api.ErrForm},
	{"aig 0 0 0 0 0 1 1\n2\nx\n", api.ErrLimit},
	{"aig 0 0 0 0 0 1 1\nx\n2\n", api.ErrForm},
	{"aig 1 0 0 0 1 0 1\n4\n\x00\x00", api.ErrLimit},
	{"aig 1 0 0 0 1 0 1\n4\n", api.ErrLimit},
	{"aig 2 1 0 0 1\n\x00", api.ErrForm},
	{"aig 2 1 0 0 1\n\x05\x80", api.ErrForm},
	{"aig 2 1 0 0 1\n\x05", api.ErrForm},
	{"aig 2 1 0 0 1\n\x80\x00", api.ErrForm},
	{"aig 3 1 0 0 2\n\x01\x04", api.ErrForm},
	{"aig 3 1 0 0 2\n\x01\x80", api.ErrShort},
	{"aig 2 1 0 0 1\n\x00\x00i0 a", api.ErrForm},
}

// P4.2, P4.3: the errors of Get, and of Any where the text is not ASCII.
func TestGetErrors(t *testing.T) {
	for _, c := range binaryErrors {
		if got, e := Get([]byte(c.b)); !norm.Same(got, api.Circuit{}) || e != c.e {
			t.Errorf("Get(%q) = %v, %d, not %d", c.b, got, e, c.e)
		}
		if got, e := Any([]byte(c.b)); !norm.Same(got, api.Circuit{}) || e != c.e {
			t.Errorf("Any(%q) = %v, %d, not %d", c.b, got, e, c.e)
		}
	}
	if got, e := Get(nil); !norm.Same(got, api.Circuit{}) || e != api.ErrShort {
		t.Errorf("Get(nil) = %v, %d", got, e)
	}
	if got, e := Get([]byte("aag 0 0 0 0 0\n")); !norm.Same(got, api.Circuit{}) || e != api.ErrForm {
		t.Errorf("Get of ASCII = %v, %d", got, e)
	}
}

// P4.2, P4.3: the length comes ahead of everything else.
func TestLength(t *testing.T) {
	filled := func(b []byte, n int) []byte { return append(b, bytes.Repeat([]byte{'#'}, n-len(b))...) }
	for _, s := range []string{"aig 1 1 0 0 0\nc\n", "aag 1 1 0 0 0\n2\nc\n"} {
		if c, e := Any(filled([]byte(s), api.MaxBytes)); !norm.Same(c, wires(1)) || e != api.OK {
			t.Errorf("Any of %q, at the limit: %v, %d", s, c, e)
		}
		if c, e := Any(filled([]byte(s), api.MaxBytes+1)); !norm.Same(c, api.Circuit{}) || e != api.ErrLimit {
			t.Errorf("Any of %q, above the limit: %v, %d", s, c, e)
		}
	}
	wide, _ := Put(widest())
	if c, e := Get(filled(append(wide, "c\n"...), api.MaxBytes)); !norm.Same(c, widest()) || e != api.OK {
		t.Errorf("Get of the widest, at the limit: %d", e)
	}
	for _, s := range []string{"", "aig 1 0 0 0 0\n", "aag 9 9\n", "\n"} {
		if _, e := Get(filled([]byte(s), api.MaxBytes+1)); e != api.ErrLimit {
			t.Errorf("Get of %q, above the limit: %d", s, e)
		}
	}
	if _, e := Get(filled(nil, api.MaxBytes)); e != api.ErrShort {
		t.Errorf("Get of no line, at the limit: %d", e)
	}
}

// lists answers the lists of a circuit, each as a function that overwrites it.
func lists(c api.Circuit) []func() {
	return []func(){
		func() { spoil(c.Latches) },
		func() { spoil(c.Gates) },
		func() { spoil(c.Outputs) },
		func() { spoil(c.Bads) },
		func() { spoil(c.Constraints) },
	}
}

// P4.2, P4.3: Get and Any do not change their argument, and what they answer is new memory, list by list.
func TestGetSharesNothing(t *testing.T) {
	r, _ := norm.Raw(full())
	ascii, _ := raw.Put(r)
	for _, text := range []string{fullLines + fullGates, string(ascii)} {
		array := []byte(text + "spare")
		for i := range lists(full()) {
			c, _ := Any(array[:len(text)])
			want := full()
			lists(c)[i]()
			lists(want)[i]()
			if !norm.Same(c, want) {
				t.Errorf("a change to list %d: %v", i, c)
			}
		}
		c, _ := Any(array[:len(text)])
		if string(array) != text+"spare" {
			t.Errorf("the argument was changed: %q", array)
		}
		spoil(array)
		if !norm.Same(c, full()) {
			t.Errorf("a change to the argument: %v", c)
		}
	}
}

// P4.3: Any of ASCII.
func TestAny(t *testing.T) {
	for _, c := range []struct {
		b    string
		want api.Circuit
		e    api.Errno
	}{
		{"aag 0 0 0 0 0\n", api.Circuit{}, api.OK},
		// The gates are numbered anew.
		{"aag 9 1 0 0 2 1\n6\n3\n2 4 6\n4 7 6\ni0 x\nc\n", api.Circuit{Inputs: 1, Gates: []api.Gate{{A: 3, B: 2}, {A: 4, B: 2}}, Bads: []uint32{7}}, api.OK},
		{"aag 1 0 1 0 0\n2 3 2\n", api.Circuit{Latches: []api.Latch{{Next: 3, Reset: api.X}}}, api.OK},
		// The errors of raw.Get.
		{"aag ", api.Circuit{}, api.ErrShort},
		{"aag \n", api.Circuit{}, api.ErrForm},
		{"aag 0 0 0 0 0", api.Circuit{}, api.ErrShort},
		{"aag 16385 0 0 0 0\n", api.Circuit{}, api.ErrLimit},
		{"aag 0 0 0 0 0 0 0 1\n", api.Circuit{}, api.ErrOther},
		{"aag 1 1 0 0 0\n4\n", api.Circuit{}, api.ErrLimit},
		{"aag 1 1 0 0 0\n2", api.Circuit{}, api.ErrShort},
		{"aag 1 1 0 0 0\n2\ni1 a\n", api.Circuit{}, api.ErrForm},
		{"aag 2 1 0 0 1\n\x01\x00", api.Circuit{}, api.ErrShort},
		// Those of norm.Of.
		{"aag 1 1 0 0 0\n3\n", api.Circuit{}, api.ErrTwice},
		{"aag 2 2 0 0 0\n2\n2\n", api.Circuit{}, api.ErrTwice},
		{"aag 1 0 0 1 0\n2\n", api.Circuit{}, api.ErrNone},
		{"aag 2 0 0 0 2\n2 4 1\n4 2 1\n", api.Circuit{}, api.ErrLoop},
		// Those of raw.Get come ahead of those of norm.Of.
		{"aag 1 1 0 0 0\n3\ni1 a\n", api.Circuit{}, api.ErrForm},
		{"aag 2 2 0 0 0\n2\n2", api.Circuit{}, api.ErrShort},
		{"aag 1 0 0 1 0\n2\nc", api.Circuit{}, api.ErrShort},
		{"aag 2 0 0 0 2\n2 4 1\n4 2 6\n", api.Circuit{}, api.ErrLimit},
	} {
		if got, e := Any([]byte(c.b)); !norm.Same(got, c.want) || e != c.e {
			t.Errorf("Any(%q) = %v, %d, not %d", c.b, got, e, c.e)
		}
	}
	if got, e := Any(nil); !norm.Same(got, api.Circuit{}) || e != api.ErrShort {
		t.Errorf("Any(nil) = %v, %d", got, e)
	}
}

// someCircuit answers a valid circuit of at most most variables.
func someCircuit(roll func(int) int, most int) api.Circuit {
	inputs := roll(most + 1)
	latches := roll(most - inputs + 1)
	gates := roll(most - inputs - latches + 1)
	lit := func(vars int) uint32 { return uint32(roll(2*vars + 2)) }
	c := api.Circuit{Inputs: inputs}
	for range latches {
		c.Latches = append(c.Latches, api.Latch{Next: lit(inputs + latches + gates), Reset: uint8(roll(3))})
	}
	for i := range gates {
		a, b := lit(inputs+latches+i), lit(inputs+latches+i)
		c.Gates = append(c.Gates, api.Gate{A: max(a, b), B: min(a, b)})
	}
	for _, list := range []*[]uint32{&c.Outputs, &c.Bads, &c.Constraints} {
		for range roll(4) {
			*list = append(*list, lit(inputs+latches+gates))
		}
	}
	return c
}

// P4.4: what Put answers is read as the same circuit, by Get and by Any, and so is the circuit as ASCII, by Any.
func TestWrittenIsRead(t *testing.T) {
	circuits := []api.Circuit{{}, full(), widest(), wires(api.MaxVars), wires(0, repeat(api.Gate{}, api.MaxVars)...)}
	roll := sample.Dice(1)
	for i := range 3000 {
		circuits = append(circuits, someCircuit(roll, 1+i%12))
	}
	for range 20 {
		circuits = append(circuits, someCircuit(roll, api.MaxVars))
	}
	for i, c := range circuits {
		b, e := Put(c)
		if e != api.OK {
			t.Fatalf("%d: Put: %d", i, e)
		}
		if got, e := Get(b); !norm.Same(got, c) || e != api.OK {
			t.Errorf("%d: Get: %d", i, e)
		}
		if got, e := Any(b); !norm.Same(got, c) || e != api.OK {
			t.Errorf("%d: Any: %d", i, e)
		}
		r, _ := norm.Raw(c)
		text, _ := raw.Put(r)
		if got, e := Any(text); !norm.Same(got, c) || e != api.OK {
			t.Errorf("%d: Any of ASCII: %d", i, e)
		}
	}
}

// P4.2: a part of the bytes, up to the names, is no circuit.
func TestCutShort(t *testing.T) {
	whole := fullLines + fullGates
	for i := range len(whole) {
		if c, e := Get([]byte(whole[:i])); !norm.Same(c, api.Circuit{}) || e != api.ErrShort {
			t.Errorf("Get of %d bytes: %v, %d", i, c, e)
		}
	}
}

// P4.2: whatever a byte is replaced by, a circuit that is answered is valid, and beside an error there is none.
func TestEveryByteChanged(t *testing.T) {
	whole := []byte(fullLines + fullGates + "i0 a\nc\nb")
	read, refused := 0, 0
	for i := range whole {
		for x := range 256 {
			b := bytes.Clone(whole)
			b[i] = byte(x)
			for _, get := range []func([]byte) (api.Circuit, api.Errno){Get, Any} {
				c, e := get(b)
				switch {
				case e == api.OK && !norm.May(c):
					t.Errorf("byte %d is %d: not valid: %v", i, x, c)
				case e != api.OK && !norm.Same(c, api.Circuit{}):
					t.Errorf("byte %d is %d: %v, %d", i, x, c, e)
				case e == api.OK:
					read++
				default:
					refused++
				}
			}
		}
	}
	if read < 100 || refused < 100 {
		t.Errorf("%d were read, and %d refused", read, refused)
	}
}

// judgeGates tells what Get has to answer for a circuit of as many inputs and gates, from the bytes of its gates, byte by byte.
func judgeGates(inputs, gates int, b []byte) (api.Circuit, api.Errno) {
	c := wires(inputs)
	for i := range gates {
		lit := int64(2 * (inputs + 1 + i))
		var lits [2]uint32
		for k := range lits {
			n, used, e := judgeStep(b)
			if e != api.OK {
				return api.Circuit{}, e
			}
			lit -= int64(n)
			if lit < 0 || k == 0 && n == 0 {
				return api.Circuit{}, api.ErrForm
			}
			lits[k], b = uint32(lit), b[used:]
		}
		c.Gates = append(c.Gates, api.Gate{A: lits[0], B: lits[1]})
	}
	if len(b) > 0 {
		return api.Circuit{}, raw.Names(b, [5]uint32{uint32(inputs)})
	}
	return c, api.OK
}

// P4.2: gates of all short rows of some bytes, held against the chapter's words.
func TestGatesOfAllShortBytes(t *testing.T) {
	letters := []byte{0x00, 0x01, 0x02, 0x05, 0x06, 0x80, 0x81, 0x84}
	head := "aig 3 1 0 0 2\n"
	read := 0
	var grow func(b []byte)
	grow = func(b []byte) {
		want, e := judgeGates(1, 2, b)
		got, f := Get(append([]byte(head), b...))
		if !norm.Same(got, want) || f != e {
			t.Errorf("Get(%q) = %v, %d, not %v, %d", head+string(b), got, f, want, e)
		}
		if f == api.OK {
			read++
		}
		if len(b) == 5 {
			return
		}
		for _, x := range letters {
			grow(append(slices.Clip(b), x))
		}
	}
	grow(nil)
	if read < 20 {
		t.Errorf("only %d were read", read)
	}
}

// The chapter's table of examples.
func TestExamples(t *testing.T) {
	b, e := Put(api.Circuit{Inputs: 1, Gates: []api.Gate{{A: 2, B: 2}}, Bads: []uint32{4}})
	if _, after, _ := strings.Cut(string(b), "\n"); after != "\x34\x0a\x02\x00" || e != api.OK {
		t.Errorf("Put = %s, %d", strconv.Quote(string(b)), e)
	}
	if n, rest, e := Step([]byte{0x82, 0x01}); n != 130 || len(rest) > 0 || e != api.OK {
		t.Errorf("Step = %d, %q, %d", n, rest, e)
	}
	if _, _, e := Step([]byte{0x80, 0x00}); e != api.ErrForm {
		t.Errorf("Step: %d", e)
	}
	if _, _, e := Step([]byte{0x80}); e != api.ErrShort {
		t.Errorf("Step: %d", e)
	}
	if n, rest, e := Step([]byte{0x05, 0x07}); n != 5 || string(rest) != "\x07" || e != api.OK {
		t.Errorf("Step = %d, %q, %d", n, rest, e)
	}
	if _, e := Get([]byte("aig 2 1 0 0 1\n\x00\x00")); e != api.ErrForm {
		t.Errorf("Get: %d", e)
	}
	if _, e := Get([]byte("aig 2 1 0 0 0\n")); e != api.ErrForm {
		t.Errorf("Get: %d", e)
	}
}
