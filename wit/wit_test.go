package wit

import (
	"bytes"
	"fmt"
	"math"
	"slices"
	"strconv"
	"strings"
	"testing"

	"inquest/api"
	"inquest/norm"
	"inquest/sample"
)

// full has each of the values, with 4 latches and 3 inputs.
func full() api.Trace {
	return api.Trace{
		Bad:    20,
		Init:   []uint8{0, 1, api.X, 1},
		Frames: [][]uint8{{api.X, 1, 0}, {0, 0, 1}, {1, api.X, api.X}},
	}
}

const fullText = "1\nb20\n01x1\nx10\n001\n1xx\n.\n"

// with answers full after a change.
func with(change func(*api.Trace)) api.Trace {
	t := full()
	change(&t)
	return t
}

func repeat[T any](x T, n int) []T { return slices.Repeat([]T{x}, n) }

// still answers a trace of as many frames, each of as many zeros, and of as many latches.
func still(latches, inputs, frames int) api.Trace {
	t := api.Trace{Init: make([]uint8, latches)}
	for range frames {
		t.Frames = append(t.Frames, make([]uint8, inputs))
	}
	return t
}

func stillText(latches, inputs, frames int) string {
	return "1\nb0\n" + strings.Repeat("0", latches) + "\n" + strings.Repeat(strings.Repeat("0", inputs)+"\n", frames) + ".\n"
}

// spoil overwrites a list and its spare capacity.
func spoil(l []byte) {
	l = l[:cap(l)]
	for i := range l {
		l[i] = '#'
	}
}

// P5.1: Put.
func TestPut(t *testing.T) {
	for _, c := range []struct {
		what string
		t    api.Trace
		want string
	}{
		{"full", full(), fullText},
		{"nothing but a frame", api.Trace{Frames: [][]uint8{nil}}, "1\nb0\n\n\n.\n"},
		{"no inputs", api.Trace{Init: []uint8{1}, Frames: [][]uint8{{}, nil, {}}}, "1\nb0\n1\n\n\n\n.\n"},
		{"no latches", api.Trace{Frames: [][]uint8{{1}, {0}}}, "1\nb0\n\n1\n0\n.\n"},
		{"latches of X", api.Trace{Init: []uint8{2, 2}, Frames: [][]uint8{{2}}}, "1\nb0\nxx\nx\n.\n"},
		{"the greatest index", with(func(t *api.Trace) { t.Bad = api.MaxList - 1 }), strings.Replace(fullText, "b20", "b1023", 1)},
		{"the least index", with(func(t *api.Trace) { t.Bad = 0 }), strings.Replace(fullText, "b20", "b0", 1)},
		{"the most frames", still(1, 2, api.MaxFrames), stillText(1, 2, api.MaxFrames)},
		{"the most latches", still(api.MaxVars, 0, 1), stillText(api.MaxVars, 0, 1)},
		{"the most inputs", still(0, api.MaxVars, 2), stillText(0, api.MaxVars, 2)},
		{"the most of all", still(api.MaxVars, api.MaxVars, api.MaxFrames), stillText(api.MaxVars, api.MaxVars, api.MaxFrames)},
	} {
		if b, e := Put(c.t); string(b) != c.want || e != api.OK {
			t.Errorf("%s: Put = %.80q, %d", c.what, b, e)
		}
	}
}

// P5.1: what Put refuses.
func TestPutErrors(t *testing.T) {
	bad := func(n int) api.Trace { return with(func(t *api.Trace) { t.Bad = n }) }
	frames := func(l ...[]uint8) api.Trace { return with(func(t *api.Trace) { t.Frames = l }) }
	initially := func(l ...uint8) api.Trace { return with(func(t *api.Trace) { t.Init = l }) }
	for _, c := range []struct {
		what string
		t    api.Trace
	}{
		{"nothing", api.Trace{}},
		{"index -1", bad(-1)},
		{"index above the limit", bad(api.MaxList)},
		{"the least number", bad(math.MinInt)},
		{"the greatest number", bad(math.MaxInt)},
		{"index 0 but for wrap-round", bad(1 << 32)},
		{"no frames", frames()},
		{"too many frames", still(1, 2, api.MaxFrames+1)},
		{"too many frames of nothing", still(0, 0, api.MaxFrames+1)},
		{"a shorter frame", frames([]uint8{0, 0}, []uint8{0})},
		{"a longer frame", frames([]uint8{0, 0}, []uint8{0, 0, 0})},
		{"a longer frame behind others", frames([]uint8{0}, []uint8{0}, []uint8{0, 0})},
		{"an empty frame behind others", frames([]uint8{0}, []uint8{0}, nil)},
		{"a frame behind an empty one", frames(nil, []uint8{0})},
		{"latches: 3", initially(0, 3)},
		{"latches: 255", initially(255, 0)},
		{"latches: a digit", initially('0')},
		{"frames: 3", frames([]uint8{0, 3})},
		{"frames: 255", frames([]uint8{0, 0}, []uint8{255, 0})},
		{"frames: a digit", frames([]uint8{0, 0}, []uint8{0, 0}, []uint8{1, 'x'})},
		{"too many latches", still(api.MaxVars+1, 0, 1)},
		{"too many inputs", still(0, api.MaxVars+1, 1)},
	} {
		if b, e := Put(c.t); len(b) > 0 || e != api.ErrArg {
			t.Errorf("%s: Put = %.80q, %d", c.what, b, e)
		}
	}
}

// P5.1: a value is refused wherever it stands.
func TestPutEveryValue(t *testing.T) {
	for v := range 256 {
		e := api.OK
		if v > api.X {
			e = api.ErrArg
		}
		for i := range full().Init {
			tr := with(func(t *api.Trace) { t.Init[i] = uint8(v) })
			if _, f := Put(tr); f != e {
				t.Errorf("latch %d is %d: %d", i, v, f)
			}
		}
		for k := range full().Frames {
			for i := range full().Frames[k] {
				tr := with(func(t *api.Trace) { t.Frames[k][i] = uint8(v) })
				if _, f := Put(tr); f != e {
					t.Errorf("input %d of frame %d is %d: %d", i, k, v, f)
				}
			}
		}
	}
}

// P5.1: Put changes neither its argument nor spare capacity, and answers new memory.
func TestPutSharesNothing(t *testing.T) {
	arrays := [][]uint8{{0, 1, 2, 1, 9, 9}, {2, 1, 0, 9}, {0, 0, 1, 9}, {1, 2, 2, 9}}
	tr := api.Trace{Bad: 20, Init: arrays[0][:4], Frames: [][]uint8{arrays[1][:3], arrays[2][:3], arrays[3][:3]}}
	b, _ := Put(tr)
	again, _ := Put(tr)
	spoil(b)
	if string(again) != fullText || !norm.SameTrace(tr, full()) {
		t.Errorf("a change to the result: %q, %v", again, tr)
	}
	if !slices.EqualFunc(arrays, [][]uint8{{0, 1, 2, 1, 9, 9}, {2, 1, 0, 9}, {0, 0, 1, 9}, {1, 2, 2, 9}}, bytes.Equal) {
		t.Errorf("spare capacity: %v", arrays)
	}
	for _, a := range arrays {
		spoil(a)
	}
	if string(again) != fullText {
		t.Errorf("a change to the argument: %q", again)
	}
}

// P5.2: Values.
func TestValues(t *testing.T) {
	for _, c := range []struct {
		line string
		many int
		want []uint8
		e    api.Errno
	}{
		{"", 0, nil, api.OK},
		{"0", 1, []uint8{0}, api.OK},
		{"1", 1, []uint8{1}, api.OK},
		{"x", 1, []uint8{api.X}, api.OK},
		{"01x10", 5, []uint8{0, 1, api.X, 1, 0}, api.OK},
		{strings.Repeat("x", api.MaxVars+1), api.MaxVars + 1, repeat(uint8(api.X), api.MaxVars+1), api.OK},
		// Fewer or more digits.
		{"", 1, nil, api.ErrForm},
		{"0", 0, nil, api.ErrForm},
		{"01", 1, nil, api.ErrForm},
		{"01", 3, nil, api.ErrForm},
		{"", -1, nil, api.ErrForm},
		{"0", -1, nil, api.ErrForm},
		{"0", math.MinInt, nil, api.ErrForm},
		{"0", math.MaxInt, nil, api.ErrForm},
		{"", math.MaxInt, nil, api.ErrForm},
		// No digits.
		{"2", 1, nil, api.ErrForm},
		{"X", 1, nil, api.ErrForm},
		{".", 1, nil, api.ErrForm},
		{"0 1", 2, nil, api.ErrForm},
		{"0 1", 3, nil, api.ErrForm},
		{"01\n", 2, nil, api.ErrForm},
		{"01\n", 3, nil, api.ErrForm},
		{"01\r", 3, nil, api.ErrForm},
		{"01x2", 4, nil, api.ErrForm},
		{"201x", 4, nil, api.ErrForm},
		{"\x00\x01\x02", 3, nil, api.ErrForm},
		{"\u0660", 1, nil, api.ErrForm},
		{"\u0660", 2, nil, api.ErrForm},
	} {
		if l, e := Values([]byte(c.line), c.many); !bytes.Equal(l, c.want) || e != c.e {
			t.Errorf("Values(%.20q, %d) = %.20v, %d", c.line, c.many, l, e)
		}
	}
	if l, e := Values(nil, 0); len(l) > 0 || e != api.OK {
		t.Errorf("Values(nil, 0) = %v, %d", l, e)
	}
	if l, e := Values(nil, 1); len(l) > 0 || e != api.ErrForm {
		t.Errorf("Values(nil, 1) = %v, %d", l, e)
	}
}

// P5.2: each byte, alone, ahead of a digit and behind one.
func TestValuesOfAllBytes(t *testing.T) {
	for x := range 256 {
		at := strings.IndexByte("01x", byte(x))
		for _, c := range []struct {
			line []byte
			want []uint8
		}{
			{[]byte{byte(x)}, []uint8{uint8(at)}},
			{[]byte{byte(x), '1'}, []uint8{uint8(at), 1}},
			{[]byte{'x', byte(x)}, []uint8{api.X, uint8(at)}},
		} {
			l, e := Values(c.line, len(c.line))
			if at >= 0 && (!bytes.Equal(l, c.want) || e != api.OK) || at < 0 && (len(l) > 0 || e != api.ErrForm) {
				t.Errorf("Values(%q) = %v, %d", c.line, l, e)
			}
		}
	}
}

// P5.2: Values does not change its argument, and answers new memory.
func TestValuesShareNothing(t *testing.T) {
	array := []byte("01xx1 spare")
	l, _ := Values(array[:5], 5)
	again, _ := Values(array[:5], 5)
	want := []uint8{0, 1, 2, 2, 1}
	spoil(l)
	if string(array) != "01xx1 spare" || !bytes.Equal(again, want) {
		t.Errorf("a change to the result: %q, %v", array, again)
	}
	spoil(array)
	if !bytes.Equal(again, want) {
		t.Errorf("a change to the argument: %v", again)
	}
}

// P5.2: Get.
func TestGet(t *testing.T) {
	for _, c := range []struct {
		b               string
		latches, inputs int
		want            api.Trace
	}{
		{fullText, 4, 3, full()},
		{"1\nb0\n\n\n.\n", 0, 0, still(0, 0, 1)},
		{"1\nb0\n\n\n\n\n.\n", 0, 0, still(0, 0, 3)},
		{"1\nb0\n1\n\n.\n", 1, 0, api.Trace{Init: []uint8{1}, Frames: [][]uint8{{}}}},
		{"1\nb0\n\n1\n.\n", 0, 1, api.Trace{Frames: [][]uint8{{1}}}},
		{"1\nb7\nx\nx\nx\n.\n", 1, 1, api.Trace{Bad: 7, Init: []uint8{2}, Frames: [][]uint8{{2}, {2}}}},
		{"1\nb1023\n\n\n.\n", 0, 0, api.Trace{Bad: api.MaxList - 1, Frames: [][]uint8{{}}}},
		{stillText(2, 1, api.MaxFrames), 2, 1, still(2, 1, api.MaxFrames)},
		{stillText(0, 0, api.MaxFrames), 0, 0, still(0, 0, api.MaxFrames)},
		{stillText(api.MaxVars, api.MaxVars, 1), api.MaxVars, api.MaxVars, still(api.MaxVars, api.MaxVars, 1)},
	} {
		if got, e := Get([]byte(c.b), c.latches, c.inputs); !norm.SameTrace(got, c.want) || e != api.OK {
			t.Errorf("Get(%.40q, %d, %d) = %.80s, %d", c.b, c.latches, c.inputs, fmt.Sprint(got), e)
		}
	}
}

// refused fails the test if Get does not answer this error, and nothing beside it.
func refused(t *testing.T, b string, latches, inputs int, want api.Errno) {
	t.Helper()
	if got, e := Get([]byte(b), latches, inputs); !norm.SameTrace(got, api.Trace{}) || e != want {
		t.Errorf("Get(%.40q, %d, %d) = %.80s, %d, not %d", b, latches, inputs, fmt.Sprint(got), e, want)
	}
}

// P5.2: the errors of Get, for one latch and one input.
func TestGetErrors(t *testing.T) {
	for b, e := range map[string]api.Errno{
		// The first line.
		"":                     api.ErrShort,
		"1":                    api.ErrShort,
		"0":                    api.ErrShort,
		"z":                    api.ErrShort,
		"0\n":                  api.ErrOther,
		"2\n":                  api.ErrOther,
		"0\nb0\n0\n0\n.\n":     api.ErrOther,
		"2\nz":                 api.ErrOther,
		"\n":                   api.ErrForm,
		"3\n":                  api.ErrForm,
		"x\n":                  api.ErrForm,
		"10\n":                 api.ErrForm,
		"01\n":                 api.ErrForm,
		"00\n":                 api.ErrForm,
		"4294967297\n":         api.ErrForm,
		" 1\n":                 api.ErrForm,
		"1 \n":                 api.ErrForm,
		"1\r\nb0\n0\n0\n.\n":   api.ErrForm,
		"2 \nb0\n0\n0\n.\n":    api.ErrForm,
		"b0\n1\n0\n0\n.\n":     api.ErrForm,
		"\n1\nb0\n0\n0\n.\n":   api.ErrForm,
		"sat\nb0\n0\n0\n.\n":   api.ErrForm,
		"\xff\nb0\n0\n0\n.\n":  api.ErrForm,
		"1\n1\nb0\n0\n0\n.\n":  api.ErrForm,
		"1\x00\nb0\n0\n0\n.\n": api.ErrForm,
		// The second line.
		"1\n":                                 api.ErrShort,
		"1\nb":                                api.ErrShort,
		"1\nb0":                               api.ErrShort,
		"1\nb1024":                            api.ErrShort,
		"1\n\n0\n0\n.\n":                      api.ErrForm,
		"1\nb\n0\n0\n.\n":                     api.ErrForm,
		"1\n0\n0\n0\n.\n":                     api.ErrForm,
		"1\nB0\n0\n0\n.\n":                    api.ErrForm,
		"1\nj0\n0\n0\n.\n":                    api.ErrForm,
		"1\nbb0\n0\n0\n.\n":                   api.ErrForm,
		"1\n b0\n0\n0\n.\n":                   api.ErrForm,
		"1\nb 0\n0\n0\n.\n":                   api.ErrForm,
		"1\nb0 \n0\n0\n.\n":                   api.ErrForm,
		"1\nb0 1\n0\n0\n.\n":                  api.ErrForm,
		"1\nb0 b1\n0\n0\n.\n":                 api.ErrForm,
		"1\nb00\n0\n0\n.\n":                   api.ErrForm,
		"1\nb007\n0\n0\n.\n":                  api.ErrForm,
		"1\nb-1\n0\n0\n.\n":                   api.ErrForm,
		"1\nb+1\n0\n0\n.\n":                   api.ErrForm,
		"1\nbx\n0\n0\n.\n":                    api.ErrForm,
		"1\nb9999x\n0\n0\n.\n":                api.ErrForm,
		"1\nb01024\n0\n0\n.\n":                api.ErrForm,
		"1\nb0\r\n0\n0\n.\n":                  api.ErrForm,
		"1\n1024\n0\n0\n.\n":                  api.ErrForm,
		"1\nb1024\n0\n0\n.\n":                 api.ErrLimit,
		"1\nb1025\n0\n0\n.\n":                 api.ErrLimit,
		"1\nb2147483648\n0\n0\n.\n":           api.ErrLimit,
		"1\nb4294967296\n0\n0\n.\n":           api.ErrLimit,
		"1\nb18446744073709551616\n0\n0\n.\n": api.ErrLimit,
		"1\nb" + strings.Repeat("9", 99) + "\n0\n0\n.\n": api.ErrLimit,
		// The latches.
		"1\nb0\n":           api.ErrShort,
		"1\nb0\n0":          api.ErrShort,
		"1\nb0\nz":          api.ErrShort,
		"1\nb0\n\n0\n.\n":   api.ErrForm,
		"1\nb0\n00\n0\n.\n": api.ErrForm,
		"1\nb0\n2\n0\n.\n":  api.ErrForm,
		"1\nb0\nX\n0\n.\n":  api.ErrForm,
		"1\nb0\n.\n0\n.\n":  api.ErrForm,
		"1\nb0\n0 \n0\n.\n": api.ErrForm,
		"1\nb0\n.\n":        api.ErrForm,
		// The frames.
		"1\nb0\n0\n":           api.ErrShort,
		"1\nb0\n0\n0":          api.ErrShort,
		"1\nb0\n0\n0\n":        api.ErrShort,
		"1\nb0\n0\n0\n1":       api.ErrShort,
		"1\nb0\n0\n0\n1\n":     api.ErrShort,
		"1\nb0\n0\nz":          api.ErrShort,
		"1\nb0\n0\n\n.\n":      api.ErrForm,
		"1\nb0\n0\n00\n.\n":    api.ErrForm,
		"1\nb0\n0\n2\n.\n":     api.ErrForm,
		"1\nb0\n0\n0\n\n.\n":   api.ErrForm,
		"1\nb0\n0\n0\n01\n.\n": api.ErrForm,
		"1\nb0\n0\n0\nX\n.\n":  api.ErrForm,
		"1\nb0\n0\n0 \n.\n":    api.ErrForm,
		"1\nb0\n0\nb1\n.\n":    api.ErrForm,
		// The line of the dot.
		"1\nb0\n0\n.":           api.ErrShort,
		"1\nb0\n0\n0\n.":        api.ErrShort,
		"1\nb0\n0\n.\n":         api.ErrForm,
		"1\nb0\n0\n.\n0\n.\n":   api.ErrForm,
		"1\nb0\n0\n0\n..\n":     api.ErrForm,
		"1\nb0\n0\n0\n. \n":     api.ErrForm,
		"1\nb0\n0\n0\n .\n":     api.ErrForm,
		"1\nb0\n0\n0\n.\r\n":    api.ErrForm,
		"1\nb0\n0\n0\n0.\n":     api.ErrForm,
		"1\nb0\n0\n0\n.\n\n":    api.ErrForm,
		"1\nb0\n0\n0\n.\n.\n":   api.ErrForm,
		"1\nb0\n0\n0\n.\n0":     api.ErrForm,
		"1\nb0\n0\n0\n.\n\x00":  api.ErrForm,
		"1\nb0\n0\n0\n.\n0\n":   api.ErrForm,
		"1\nb0\n0\n0\n.\nc\nx":  api.ErrForm,
		"1\nb0\n0\n0\n.\n0\n.":  api.ErrForm,
		"1\nb0\n0\n0\n.\n1\nb0": api.ErrForm,
		// Of several errors, the one that comes first.
		"3\nb1024\n2\n0\n.\n":     api.ErrForm,
		"2\nb1024\n2\n0\n.\n":     api.ErrOther,
		"1\nb1024\n2\n0\n":        api.ErrLimit,
		"1\nb1024\n2\n0":          api.ErrLimit,
		"1\nb1024\n":              api.ErrLimit,
		"1\nb00\n0\n0":            api.ErrForm,
		"1\nb0\n2\n":              api.ErrForm,
		"1\nb0\n0\n2\n0":          api.ErrForm,
		"1\nb0\n0\n0\n.\nno line": api.ErrForm,
	} {
		refused(t, b, 1, 1, e)
	}
}

// P5.2: without inputs a frame is an empty line, and without latches they are one; a dot is neither.
func TestGetOfEmptyLines(t *testing.T) {
	for _, c := range []struct {
		b               string
		latches, inputs int
		e               api.Errno
	}{
		{"1\nb0\n\n", 0, 0, api.ErrShort},
		{"1\nb0\n\n\n", 0, 0, api.ErrShort},
		{"1\nb0\n\n.\n", 0, 0, api.ErrForm},
		{"1\nb0\n.\n", 0, 0, api.ErrForm},
		{"1\nb0\n\n0\n.\n", 0, 0, api.ErrForm},
		{"1\nb0\n0\n\n.\n", 0, 0, api.ErrForm},
		{"1\nb0\n\n\n.\n\n", 0, 0, api.ErrForm},
		{"1\nb0\n\n.\n", 0, 1, api.ErrForm},
		{"1\nb0\n.\n.\n.\n", 1, 1, api.ErrForm},
		{"1\nb0\n0\n.\n.\n", 1, 1, api.ErrForm},
		{fullText, 3, 3, api.ErrForm},
		{fullText, 5, 3, api.ErrForm},
		{fullText, 4, 2, api.ErrForm},
		{fullText, 4, 4, api.ErrForm},
		{fullText, 3, 4, api.ErrForm},
		{fullText, api.MaxVars, api.MaxVars, api.ErrForm},
	} {
		refused(t, c.b, c.latches, c.inputs, c.e)
	}
}

// P5.2: the numbers of latches and inputs come ahead of everything else.
func TestGetArguments(t *testing.T) {
	long := strings.Repeat("#", api.MaxBytes+1)
	for _, n := range []int{-1, math.MinInt, api.MaxVars + 1, math.MaxInt, 1 << 32} {
		for _, b := range []string{"", fullText, long, "0\n"} {
			refused(t, b, n, 3, api.ErrArg)
			refused(t, b, 4, n, api.ErrArg)
			refused(t, b, n, n, api.ErrArg)
			refused(t, b, n, -1, api.ErrArg)
			refused(t, b, -1, n, api.ErrArg)
		}
	}
	if _, e := Get(nil, api.MaxVars, api.MaxVars); e != api.ErrShort {
		t.Errorf("Get(nil) = %d", e)
	}
}

// P5.2, P5.3: a witness of as many bytes as there may be is read, and one of a byte more is not.
func TestLength(t *testing.T) {
	const frames = 63
	latches := api.MaxBytes - len(stillText(0, api.MaxVars, frames))
	for more := range 2 {
		want := still(latches+more, api.MaxVars, frames)
		b, e := Put(want)
		if len(b) != api.MaxBytes+more || e != api.OK {
			t.Fatalf("Put: %d bytes, %d", len(b), e)
		}
		got, e := Get(b, latches+more, api.MaxVars)
		switch more {
		case 0:
			if !norm.SameTrace(got, want) || e != api.OK {
				t.Errorf("Get, at the limit: %d", e)
			}
		default:
			if !norm.SameTrace(got, api.Trace{}) || e != api.ErrLimit {
				t.Errorf("Get, above the limit: %d", e)
			}
		}
	}
	for _, b := range []string{"", "0\n", "3\n", fullText} {
		refused(t, b+strings.Repeat("#", api.MaxBytes+1-len(b)), 4, 3, api.ErrLimit)
	}
	refused(t, strings.Repeat("#", api.MaxBytes), 4, 3, api.ErrShort)
	refused(t, fullText+strings.Repeat("\n", api.MaxBytes-len(fullText)), 4, 3, api.ErrForm)
}

// P5.2: one frame too many is ErrLimit, where it is a frame.
func TestTooManyFrames(t *testing.T) {
	most, _ := strings.CutSuffix(stillText(1, 1, api.MaxFrames), ".\n")
	for tail, e := range map[string]api.Errno{
		"0\n":           api.ErrLimit,
		"0\n.\n":        api.ErrLimit,
		"0\nz\n":        api.ErrLimit,
		"0\n0":          api.ErrLimit,
		"0\n.\n.\n":     api.ErrLimit,
		"0\n0\n0\n.\n":  api.ErrLimit,
		"":              api.ErrShort,
		"0":             api.ErrShort,
		".":             api.ErrShort,
		"z\n":           api.ErrForm,
		"00\n":          api.ErrForm,
		"\n":            api.ErrForm,
		"2\n0\n.\n":     api.ErrForm,
		".\n0\n":        api.ErrForm,
		".\n0":          api.ErrForm,
		".\n" + most:    api.ErrForm,
		"..\n0\n0\n.\n": api.ErrForm,
	} {
		refused(t, most+tail, 1, 1, e)
	}
	if got, e := Get([]byte(most+".\n"), 1, 1); !norm.SameTrace(got, still(1, 1, api.MaxFrames)) || e != api.OK {
		t.Errorf("Get of the most frames: %d", e)
	}
	refused(t, stillText(0, 0, api.MaxFrames+1), 0, 0, api.ErrLimit)
}

// P5.2: Get does not change its argument, and what it answers is new memory, list by list.
func TestGetSharesNothing(t *testing.T) {
	array := []byte(fullText + "spare")
	lists := func(t api.Trace) [][]uint8 { return append([][]uint8{t.Init}, t.Frames...) }
	for i := range lists(full()) {
		got, _ := Get(array[:len(fullText)], 4, 3)
		want := full()
		spoil(lists(got)[i])
		spoil(lists(want)[i])
		if !norm.SameTrace(got, want) || string(array) != fullText+"spare" {
			t.Errorf("a change to list %d: %v, %q", i, got, array)
		}
	}
	got, _ := Get(array[:len(fullText)], 4, 3)
	spoil(array)
	if !norm.SameTrace(got, full()) {
		t.Errorf("a change to the argument: %v", got)
	}
}

// P5.2: a part of a witness is none.
func TestCutShort(t *testing.T) {
	for i := range fullText {
		refused(t, fullText[:i], 4, 3, api.ErrShort)
	}
}

// judge tells by the library what Get has to answer, line by line as the chapter says it; latches and inputs are from 0 to api.MaxVars.
func judge(text string, latches, inputs int) (api.Trace, api.Errno) {
	lines := strings.SplitAfter(text, "\n")
	var t api.Trace
	for i, line := range lines {
		line, whole := strings.CutSuffix(line, "\n")
		switch {
		case !whole:
			return api.Trace{}, api.ErrShort
		case i == 0 && (line == "0" || line == "2"):
			return api.Trace{}, api.ErrOther
		case i == 0 && line != "1":
			return api.Trace{}, api.ErrForm
		case i == 1:
			n, err := strconv.Atoi(strings.TrimPrefix(line, "b"))
			if err != nil || "b"+strconv.Itoa(n) != line || n < 0 {
				return api.Trace{}, api.ErrForm
			}
			if n >= api.MaxList {
				return api.Trace{}, api.ErrLimit
			}
			t.Bad = n
		case i == 2 && !isDigits(line, latches), i == 3 && !isDigits(line, inputs), i > 3 && line != "." && !isDigits(line, inputs):
			return api.Trace{}, api.ErrForm
		case i == 2:
			t.Init = told(line)
		case line == "." && strings.Join(lines[i+1:], "") != "":
			return api.Trace{}, api.ErrForm
		case line == ".":
			return t, api.OK
		case i > 2:
			t.Frames = append(t.Frames, told(line))
		}
	}
	return api.Trace{}, api.ErrShort
}

func isDigits(line string, many int) bool {
	return len(line) == many && strings.Trim(line, "01x") == ""
}

func told(line string) []uint8 {
	return []byte(strings.NewReplacer("0", "\x00", "1", "\x01", "x", "\x02").Replace(line))
}

// P5.2, P5.3: all short texts of some bytes, also behind the beginning of a witness, held against the chapter's words; those that are read are written as the same bytes.
func TestGetOfAllShortTexts(t *testing.T) {
	read := 0
	check := func(text string) {
		for latches := range 3 {
			for inputs := range 3 {
				want, e := judge(text, latches, inputs)
				got, f := Get([]byte(text), latches, inputs)
				if !norm.SameTrace(got, want) || f != e {
					t.Errorf("Get(%q, %d, %d) = %v, %d, not %v, %d", text, latches, inputs, got, f, want, e)
				}
				if f != api.OK {
					continue
				}
				read++
				if b, e := Put(got); string(b) != text || e != api.OK {
					t.Errorf("%q was written as %q, %d", text, b, e)
				}
			}
		}
	}
	for _, c := range []struct {
		head, letters string
		most          int
	}{
		{"", "012b\n", 5},
		{"1\n", "01xb\n.", 5},
		{"1\nb", "0249\n", 6},
		{"1\nb0\n", "0x.\n2", 7},
		{"1\nb0\n0\n", "1x.\n", 8},
	} {
		forAll(c.head, c.letters, c.most, check)
	}
	if read < 80 {
		t.Errorf("only %d were read", read)
	}
}

// forAll visits every text of head and at most most of these bytes.
func forAll(head, letters string, most int, visit func(string)) {
	visit(head)
	if most == 0 {
		return
	}
	for i := range len(letters) {
		forAll(head+letters[i:i+1], letters, most-1, visit)
	}
}

// P5.2, P5.3: whatever a byte is replaced by, what is answered is what the chapter says, and a trace is written as the same bytes.
func TestEveryByteChanged(t *testing.T) {
	read, refused := 0, 0
	for i := range fullText {
		for x := range 256 {
			b := []byte(fullText)
			b[i] = byte(x)
			want, e := judge(string(b), 4, 3)
			got, f := Get(b, 4, 3)
			if !norm.SameTrace(got, want) || f != e {
				t.Errorf("byte %d is %d: %v, %d, not %v, %d", i, x, got, f, want, e)
			}
			if f != api.OK {
				refused++
				continue
			}
			read++
			if again, e := Put(got); !bytes.Equal(again, b) || e != api.OK {
				t.Errorf("byte %d is %d: written as %q, %d", i, x, again, e)
			}
		}
	}
	if read < 30 || refused < 1000 {
		t.Errorf("%d were read, and %d refused", read, refused)
	}
}

// someTrace answers a trace that can be written.
func someTrace(roll func(int) int, latches, inputs, frames int) api.Trace {
	t := api.Trace{Bad: roll(api.MaxList), Init: sample.Values(roll, latches, 3)}
	for range frames {
		t.Frames = append(t.Frames, sample.Values(roll, inputs, 3))
	}
	return t
}

// P5.3, P0.6: what Put answers is read as the same trace, and that is written as the same bytes.
func TestWrittenIsRead(t *testing.T) {
	roll := sample.Dice(1)
	traces := []api.Trace{full(), still(0, 0, 1), still(0, 0, api.MaxFrames), still(api.MaxVars, 0, 1), still(0, api.MaxVars, 63)}
	for i := range 2000 {
		traces = append(traces, someTrace(roll, roll(1+i%20), roll(1+i%20), 1+roll(1+i%10)))
	}
	for range 10 {
		traces = append(traces, someTrace(roll, roll(api.MaxVars), roll(2000), 1+roll(api.MaxFrames)))
	}
	for i := range api.MaxList {
		traces = append(traces, api.Trace{Bad: i, Frames: [][]uint8{{}}})
	}
	for i, tr := range traces {
		b, e := Put(tr)
		if len(b) > api.MaxBytes || e != api.OK {
			t.Fatalf("%d: Put: %d bytes, %d", i, len(b), e)
		}
		got, e := Get(b, len(tr.Init), len(tr.Frames[0]))
		if !norm.SameTrace(got, tr) || e != api.OK {
			t.Errorf("%d: Get: %d", i, e)
		}
		if again, e := Put(got); !bytes.Equal(again, b) || e != api.OK {
			t.Errorf("%d: Put of what was read: %d", i, e)
		}
	}
}

// The chapter's table of examples.
func TestExamples(t *testing.T) {
	for _, c := range []struct {
		b               string
		latches, inputs int
		want            api.Trace
		e               api.Errno
	}{
		{"1\nb0\nx\n0\n1\n.\n", 1, 1, api.Trace{Init: []uint8{api.X}, Frames: [][]uint8{{0}, {1}}}, api.OK},
		{"1\nb0\n\nx\n.\n", 0, 1, api.Trace{Frames: [][]uint8{{api.X}}}, api.OK},
		{"0\n", 1, 1, api.Trace{}, api.ErrOther},
		{"1\nb0\n\n.\n", 0, 1, api.Trace{}, api.ErrForm},
		{"1\nb0\n0\n0\n", 1, 1, api.Trace{}, api.ErrShort},
	} {
		if got, e := Get([]byte(c.b), c.latches, c.inputs); !norm.SameTrace(got, c.want) || e != c.e {
			t.Errorf("Get(%q, %d, %d) = %v, %d", c.b, c.latches, c.inputs, got, e)
		}
	}
}
