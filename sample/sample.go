// Package sample makes circuits, traces and clauses for the tests of the layers: no layer makes use of it.
package sample

import (
	"math"
	"strings"

	"inquest/api"
)

// Dice answers numbers below n that look like chance, the same ones each time.
func Dice(seed uint64) func(n int) int {
	return func(n int) int {
		seed = seed*6364136223846793005 + 1442695040888963407
		return int(seed >> 33 % uint64(n))
	}
}

// Values answers as many values; as many kinds of them occur, from 0 on.
func Values(roll func(int) int, many, kinds int) []uint8 {
	l := make([]uint8, many)
	for i := range l {
		l[i] = uint8(roll(kinds))
	}
	return l
}

// Circuit answers a valid circuit of a few variables with one to three bad literals.
func Circuit(roll func(int) int) api.Circuit {
	c := api.Circuit{Inputs: roll(4)}
	latches, gates := roll(5), roll(10)
	free := 1 + c.Inputs + latches
	lit := func(vars int) uint32 { return uint32(roll(2 * vars)) }
	for range latches {
		c.Latches = append(c.Latches, api.Latch{Next: lit(free + gates), Reset: uint8(roll(3))})
	}
	for i := range gates {
		a, b := lit(free+i), lit(free+i)
		c.Gates = append(c.Gates, api.Gate{A: max(a, b), B: min(a, b)})
	}
	for range 1 + roll(3) {
		c.Bads = append(c.Bads, lit(free+gates))
	}
	for range max(roll(5)-2, 0) {
		c.Constraints = append(c.Constraints, lit(free+gates))
	}
	return c
}

// Trace answers a trace that fits; as many kinds of values occur.
func Trace(roll func(int) int, c api.Circuit, bad, frames, kinds int) api.Trace {
	t := api.Trace{Bad: bad, Init: Values(roll, len(c.Latches), kinds)}
	for i, l := range c.Latches {
		if l.Reset != api.X {
			t.Init[i] = l.Reset
		}
	}
	for range frames {
		t.Frames = append(t.Frames, Values(roll, c.Inputs, kinds))
	}
	return t
}

// Digits answers the values that a text of 0, 1 and x tells.
func Digits(s string) []uint8 {
	l := []uint8{}
	for i := range len(s) {
		l = append(l, uint8(strings.IndexByte("01x", s[i])))
	}
	return l
}

// Frames answers the values of each of the texts.
func Frames(texts ...string) [][]uint8 {
	var l [][]uint8
	for _, s := range texts {
		l = append(l, Digits(s))
	}
	return l
}

// Told answers the trace that texts tell: one for the latches, and one for each frame.
func Told(bad int, first string, texts ...string) api.Trace {
	return api.Trace{Bad: bad, Init: Digits(first), Frames: Frames(texts...)}
}

// Full has inputs 1 and 2, latches 3 to 5 (at first 0, 1, free), gates 6 to 9.
func Full() api.Circuit {
	return api.Circuit{
		Inputs:      2,
		Latches:     []api.Latch{{Next: 12}, {Next: 15, Reset: 1}, {Next: 3, Reset: api.X}},
		Gates:       []api.Gate{{A: 4, B: 2}, {A: 13, B: 11}, {A: 14, B: 1}, {A: 8, B: 6}},
		Outputs:     []uint32{16, 3},
		Bads:        []uint32{18, 17, 10},
		Constraints: []uint32{1, 13},
	}
}

// Counter counts from 0 on in as many latches, the first of which is the least digit, while its only input is 1.
func Counter(latches int) api.Circuit {
	c := api.Circuit{Inputs: 1, Bads: []uint32{1}}
	carry := uint32(2)
	for i := range latches {
		latch, gate := uint32(4+2*i), uint32(4+2*latches+6*i)
		// Both, neither, and one alone: the first of them is carried on.
		c.Gates = append(c.Gates,
			api.Gate{A: max(latch, carry), B: min(latch, carry)},
			api.Gate{A: max(latch+1, carry^1), B: min(latch+1, carry^1)},
			api.Gate{A: gate + 3, B: gate + 1})
		c.Latches = append(c.Latches, api.Latch{Next: gate + 4})
		carry = gate
	}
	return c
}

// Much has, unrolled to as many frames as there may be, one clause fewer than there may be; each reset adds one.
func Much(resets int) api.Circuit {
	c := api.Circuit{Inputs: 1, Latches: make([]api.Latch, 800), Gates: make([]api.Gate, 834), Bads: []uint32{2}, Constraints: []uint32{3}}
	for i := range c.Latches {
		c.Latches[i].Reset = api.X
		if i < 62+resets {
			c.Latches[i].Reset = uint8(i % 2)
		}
	}
	return c
}

// WrongCircuits are Full with one change each that makes it a circuit that is not valid.
func WrongCircuits() []api.Circuit {
	var l []api.Circuit
	for _, change := range []func(c *api.Circuit){
		func(c *api.Circuit) { c.Inputs = -1 },
		func(c *api.Circuit) { c.Inputs = math.MinInt },
		func(c *api.Circuit) { c.Inputs = math.MaxInt },
		func(c *api.Circuit) { c.Inputs = api.MaxVars },
		// Cut to 32 bits, this is 0.
		func(c *api.Circuit) { c.Inputs = math.MaxInt &^ math.MaxUint32 },
		func(c *api.Circuit) { c.Latches[0].Next = 20 },
		func(c *api.Circuit) { c.Latches[2].Next = math.MaxUint32 },
		func(c *api.Circuit) { c.Latches[2].Reset = 3 },
		func(c *api.Circuit) { c.Gates[1].A = 14 },
		func(c *api.Circuit) { c.Gates[3].A = math.MaxUint32 },
		func(c *api.Circuit) { c.Gates[0] = api.Gate{A: 2, B: 4} },
		func(c *api.Circuit) { c.Outputs[1] = 20 },
		func(c *api.Circuit) { c.Bads[0] = 20 },
		func(c *api.Circuit) { c.Constraints[1] = math.MaxUint32 },
		func(c *api.Circuit) { c.Outputs = make([]uint32, api.MaxList+1) },
		func(c *api.Circuit) { c.Bads = make([]uint32, api.MaxList+1) },
		func(c *api.Circuit) { c.Constraints = make([]uint32, api.MaxList+1) },
	} {
		c := Full()
		change(&c)
		l = append(l, c)
	}
	return l
}

// WrongTraces do not fit Full, each for a reason of its own; several of them would if they were read without X.
func WrongTraces() []api.Trace {
	return []api.Trace{
		{},
		Told(-1, "01x", "00"),
		Told(3, "01x", "00"),
		Told(math.MinInt, "01x", "00"),
		Told(math.MaxInt, "01x", "00"),
		Told(0, "01", "00"),
		Told(0, "01x0", "00"),
		Told(0, "", "00"),
		Told(0, "11x", "00"),
		Told(0, "00x", "00"),
		Told(0, "x1x", "00"),
		Told(0, "0xx", "00"),
		Told(0, "01x"),
		Told(0, "01x", strings.Split("00"+strings.Repeat(" 00", api.MaxFrames), " ")...),
		Told(0, "01x", "0"),
		Told(0, "01x", "000"),
		Told(0, "01x", ""),
		Told(0, "01x", "00", "01", "1"),
		{Init: []uint8{0, 1, 3}, Frames: Frames("00")},
		{Init: []uint8{0, 1, 255}, Frames: Frames("00")},
		{Init: Digits("01x"), Frames: [][]uint8{{0, 3}}},
		{Init: Digits("01x"), Frames: [][]uint8{{0, 0}, {255, 0}}},
		{Init: Digits("01x"), Frames: [][]uint8{nil}},
	}
}
