package sample

import (
	"slices"

	"inquest/api"
)

// Roomy answers a list with spare capacity, which is all zero values.
func Roomy[T any](l []T) []T { return append(make([]T, 0, len(l)+9), l...) }

// Untouched tells whether a list is as it was, and whether its spare capacity is all zero values still.
func Untouched[T comparable](l, was []T) bool {
	behind := l[len(l):cap(l)]
	return slices.Equal(l, was) && slices.Equal(behind, make([]T, len(behind)))
}

// Apart spoils one list after the other, with its spare capacity, and tells whether those behind it stay as they were.
func Apart[T comparable](l [][]T, spoil T) bool {
	var was [][]T
	for _, x := range l {
		was = append(was, slices.Clone(x))
	}
	for i := range l {
		if !slices.EqualFunc(l[i:], was[i:], slices.Equal) {
			return false
		}
		for j := range l[i][:cap(l[i])] {
			l[i][:cap(l[i])][j] = spoil
		}
	}
	return true
}

// RoomyCircuit answers a circuit all of whose lists are roomy.
func RoomyCircuit(c api.Circuit) api.Circuit {
	return api.Circuit{
		Inputs:      c.Inputs,
		Latches:     Roomy(c.Latches),
		Gates:       Roomy(c.Gates),
		Outputs:     Roomy(c.Outputs),
		Bads:        Roomy(c.Bads),
		Constraints: Roomy(c.Constraints),
	}
}

// UntouchedCircuit tells whether a circuit is as it was, and the spare capacity of its lists too.
func UntouchedCircuit(c, was api.Circuit) bool {
	return c.Inputs == was.Inputs &&
		Untouched(c.Latches, was.Latches) &&
		Untouched(c.Gates, was.Gates) &&
		Untouched(c.Outputs, was.Outputs) &&
		Untouched(c.Bads, was.Bads) &&
		Untouched(c.Constraints, was.Constraints)
}

// RoomyTrace answers a trace all of whose lists are roomy.
func RoomyTrace(t api.Trace) api.Trace {
	frames := Roomy(t.Frames)
	for i, f := range frames {
		frames[i] = Roomy(f)
	}
	return api.Trace{Bad: t.Bad, Init: Roomy(t.Init), Frames: frames}
}

// UntouchedTrace tells whether a trace is as it was, and the spare capacity of its lists too.
func UntouchedTrace(t, was api.Trace) bool {
	behind := t.Frames[len(t.Frames):cap(t.Frames)]
	return t.Bad == was.Bad &&
		Untouched(t.Init, was.Init) &&
		slices.EqualFunc(t.Frames, was.Frames, Untouched) &&
		!slices.ContainsFunc(behind, func(f []uint8) bool { return f != nil })
}
