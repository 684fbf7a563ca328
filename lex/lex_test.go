package lex

import (
	"math"
	"slices"
	"strconv"
	"strings"
	"testing"

	"inquest/api"
)

// P1.1: Line.
func TestLine(t *testing.T) {
	for _, c := range []struct {
		b, line, rest string
		e             api.Errno
	}{
		{"ab\nc", "ab", "c", api.OK},
		{"ab\n", "ab", "", api.OK},
		{"\n", "", "", api.OK},
		{"\n\n", "", "\n", api.OK},
		{"a\nb\nc\n", "a", "b\nc\n", api.OK},
		{" a  b \nc", " a  b ", "c", api.OK},
		{"a\r\nb", "a\r", "b", api.OK},
		{"a\x00\xff\nb", "a\x00\xff", "b", api.OK},
		{"\u010a\n\u010a", "\u010a", "\u010a", api.OK},
		{"", "", "", api.ErrShort},
		{"ab", "", "", api.ErrShort},
		{"ab\r", "", "", api.ErrShort},
	} {
		line, rest, e := Line([]byte(c.b))
		if string(line) != c.line || string(rest) != c.rest || e != c.e {
			t.Errorf("Line(%q) = %q, %q, %d", c.b, line, rest, e)
		}
	}
	if line, rest, e := Line(nil); len(line) != 0 || len(rest) != 0 || e != api.ErrShort {
		t.Errorf("Line(nil) = %q, %q, %d", line, rest, e)
	}
}

// P1.1 and the rule that results are new memory: a change to one is seen in no other.
func TestLineSharesNothing(t *testing.T) {
	const text = "ab\ncd\nrest of the array"
	array := []byte(text)
	line, rest, _ := Line(array[:6])
	fill(line)
	if string(array) != text || string(rest) != "cd\n" {
		t.Errorf("a change to the line: %q, rest %q", array, rest)
	}
	line, rest, _ = Line(array[:6])
	fill(rest)
	if string(array) != text || string(line) != "ab" {
		t.Errorf("a change to the rest: %q, line %q", array, line)
	}
	line, rest, _ = Line(array[:6])
	fill(array)
	if string(line) != "ab" || string(rest) != "cd\n" {
		t.Errorf("a change to the argument: line %q, rest %q", line, rest)
	}
}

// fill overwrites a slice and its spare capacity.
func fill(b []byte) {
	for i := range b[:cap(b)] {
		b[:cap(b)][i] = '#'
	}
}

// P1.1: Words.
func TestWords(t *testing.T) {
	for _, c := range []struct {
		line string
		want []string
		e    api.Errno
	}{
		{"", nil, api.OK},
		{"a", []string{"a"}, api.OK},
		{"a b", []string{"a", "b"}, api.OK},
		{"aag 3 1 1 0 1", []string{"aag", "3", "1", "1", "0", "1"}, api.OK},
		{"a\tb\r c\x00", []string{"a\tb\r", "c\x00"}, api.OK},
		{"\u00a0 \xff", []string{"\u00a0", "\xff"}, api.OK},
		{" ", nil, api.ErrForm},
		{"  ", nil, api.ErrForm},
		{" a", nil, api.ErrForm},
		{"a ", nil, api.ErrForm},
		{"a b ", nil, api.ErrForm},
		{"a  b", nil, api.ErrForm},
		{"a b  c", nil, api.ErrForm},
		{"a   b", nil, api.ErrForm},
	} {
		if words, e := Words([]byte(c.line)); !slices.Equal(words, c.want) || e != c.e {
			t.Errorf("Words(%q) = %q, %d", c.line, words, e)
		}
	}
	if words, e := Words(nil); len(words) != 0 || e != api.OK {
		t.Errorf("Words(nil) = %q, %d", words, e)
	}
}

// P1.1: the words stay when the line is overwritten, and the line stays as it was.
func TestWordsShareNothing(t *testing.T) {
	const text = "ab cd rest of the array"
	array := []byte(text)
	words, _ := Words(array[:5])
	if string(array) != text {
		t.Errorf("the argument was changed: %q", array)
	}
	fill(array)
	if !slices.Equal(words, []string{"ab", "cd"}) {
		t.Errorf("Words = %q", words)
	}
}

// P1.1: every line of up to seven letters and blanks, held against the words' definition.
func TestWordsOfAllShortLines(t *testing.T) {
	forAll("a ", 7, func(line string) {
		var want []string
		e := api.OK
		if line != "" {
			want = strings.Split(line, " ")
		}
		if slices.Contains(want, "") {
			want, e = nil, api.ErrForm
		}
		if words, f := Words([]byte(line)); !slices.Equal(words, want) || f != e {
			t.Errorf("Words(%q) = %q, %d", line, words, f)
		}
	})
}

// forAll visits every text of at most most of these bytes.
func forAll(letters string, most int, visit func(string)) {
	var grow func(text string)
	grow = func(text string) {
		visit(text)
		if len(text) == most {
			return
		}
		for i := range len(letters) {
			grow(text + letters[i:i+1])
		}
	}
	grow("")
}

// P1.1: Number.
func TestNumber(t *testing.T) {
	const all = math.MaxUint32
	for _, c := range []struct {
		s    string
		most uint32
		want uint32
		e    api.Errno
	}{
		{"0", 0, 0, api.OK},
		{"0", 9, 0, api.OK},
		{"9", 9, 9, api.OK},
		{"10", 10, 10, api.OK},
		{"1020304050", all, 1020304050, api.OK},
		{"4294967295", all, all, api.OK},
		{"2147483647", 1<<31 - 1, 1<<31 - 1, api.OK},
		{"1", 0, 0, api.ErrLimit},
		{"10", 9, 0, api.ErrLimit},
		{"2147483648", 1<<31 - 1, 0, api.ErrLimit},
		{"4294967295", all - 1, 0, api.ErrLimit},
		{"4294967296", all, 0, api.ErrLimit},
		{"4294967296", 0, 0, api.ErrLimit},
		{"18446744073709551616", all, 0, api.ErrLimit},
		{"18446744073709551617", 9, 0, api.ErrLimit},
		{strings.Repeat("9", 1000), all, 0, api.ErrLimit},
		{"1" + strings.Repeat("0", 1000), all, 0, api.ErrLimit},
		{"", 9, 0, api.ErrForm},
		{"00", 9, 0, api.ErrForm},
		{"007", 9, 0, api.ErrForm},
		{"07", 9, 0, api.ErrForm},
		{"010", 9, 0, api.ErrForm},
		{"-1", 9, 0, api.ErrForm},
		{"-0", 9, 0, api.ErrForm},
		{"+1", 9, 0, api.ErrForm},
		{" 1", 9, 0, api.ErrForm},
		{"1 ", 9, 0, api.ErrForm},
		{"1\n", 9, 0, api.ErrForm},
		{"1_0", 99, 0, api.ErrForm},
		{"0x1", 9, 0, api.ErrForm},
		{"1e1", 99, 0, api.ErrForm},
		{"1.0", 9, 0, api.ErrForm},
		{"/", 9, 0, api.ErrForm},
		{":", 99, 0, api.ErrForm},
		{"\u0661", 9, 0, api.ErrForm},
		{"\xff", 9, 0, api.ErrForm},
		{"1\x00", 9, 0, api.ErrForm},
		{"10x", 9, 0, api.ErrForm},
		{strings.Repeat("9", 1000) + "x", 9, 0, api.ErrForm},
		{"0" + strings.Repeat("9", 1000), 9, 0, api.ErrForm},
	} {
		if n, e := Number(c.s, c.most); n != c.want || e != c.e {
			t.Errorf("Number(%q, %d) = %d, %d", c.s, c.most, n, e)
		}
	}
}

// P1.1: every byte as a number of its own, and behind a digit.
func TestNumberOfAllBytes(t *testing.T) {
	for x := range 256 {
		s := string([]byte{byte(x)})
		digit := '0' <= x && x <= '9'
		if n, e := Number(s, 9); (e == api.OK) != digit || digit && n != uint32(x-'0') || !digit && e != api.ErrForm {
			t.Errorf("Number(%q) = %d, %d", s, n, e)
		}
		if n, e := Number("1"+s, 99); (e == api.OK) != digit || digit && n != uint32(10+x-'0') || !digit && e != api.ErrForm {
			t.Errorf("Number(%q) = %d, %d", "1"+s, n, e)
		}
	}
}

// P1.2: Numbers.
func TestNumbers(t *testing.T) {
	for _, c := range []struct {
		line        string
		least, many int
		most        uint32
		want        []uint32
		e           api.Errno
	}{
		{"1 2 3", 2, 3, 9, []uint32{1, 2, 3}, api.OK},
		{"1 2", 2, 3, 9, []uint32{1, 2}, api.OK},
		{"0", 1, 1, 0, []uint32{0}, api.OK},
		{"4294967295 0", 0, 9, math.MaxUint32, []uint32{math.MaxUint32, 0}, api.OK},
		{"1", -5, 9, 9, []uint32{1}, api.OK},
		{"", 0, 0, 9, nil, api.OK},
		{"", -1, 3, 9, nil, api.OK},
		// The number of words.
		{"1", 2, 3, 9, nil, api.ErrForm},
		{"1 2 3 4", 2, 3, 9, nil, api.ErrForm},
		{"", 1, 1, 9, nil, api.ErrForm},
		{"", 0, -1, 9, nil, api.ErrForm},
		{"1 2", 3, 1, 9, nil, api.ErrForm},
		{"1 2", math.MaxInt, math.MaxInt, 9, nil, api.ErrForm},
		{"1 2", math.MinInt, math.MinInt, 9, nil, api.ErrForm},
		// An error of Words.
		{"1  2", 0, 9, 9, nil, api.ErrForm},
		{" 1 2", 0, 9, 9, nil, api.ErrForm},
		{"1 2 ", 0, 9, 9, nil, api.ErrForm},
		{" ", 0, 9, 9, nil, api.ErrForm},
		// The first error of Number, from the left.
		{"1 10 x", 0, 9, 9, nil, api.ErrLimit},
		{"1 x 10", 0, 9, 9, nil, api.ErrForm},
		{"1 2 10", 0, 9, 9, nil, api.ErrLimit},
		{"1 2 03", 0, 9, 9, nil, api.ErrForm},
		// What comes first of several.
		{"10  1", 0, 9, 9, nil, api.ErrForm},
		{"10 ", 0, 9, 9, nil, api.ErrForm},
		{"10", 2, 3, 9, nil, api.ErrForm},
		{"10 1 1 1", 2, 3, 9, nil, api.ErrForm},
	} {
		if l, e := Numbers([]byte(c.line), c.least, c.many, c.most); !slices.Equal(l, c.want) || e != c.e {
			t.Errorf("Numbers(%q, %d, %d, %d) = %v, %d", c.line, c.least, c.many, c.most, l, e)
		}
	}
}

// P1.2: Write.
func TestWrite(t *testing.T) {
	for _, c := range []struct {
		b    string
		l    []uint32
		want string
	}{
		{"x", []uint32{1, 20}, "x1 20\n"},
		{"", []uint32{0}, "0\n"},
		{"", []uint32{math.MaxUint32, 0, 1 << 31}, "4294967295 0 2147483648\n"},
		{"a\n", []uint32{100}, "a\n100\n"},
		{"a ", nil, "a \n"},
		{"", nil, "\n"},
		{"\xff\x00", []uint32{9, 10}, "\xff\x009 10\n"},
	} {
		if b := Write([]byte(c.b), c.l); string(b) != c.want {
			t.Errorf("Write(%q, %v) = %q", c.b, c.l, b)
		}
	}
	if b := Write(nil, nil); string(b) != "\n" {
		t.Errorf("Write(nil, nil) = %q", b)
	}
}

// P1.2: Write answers new memory, and touches neither its arguments nor their spare capacity.
func TestWriteSharesNothing(t *testing.T) {
	const text = "x, and room for more than a line of numbers"
	array, list := []byte(text), []uint32{1, 20, 3}
	b := Write(array[:1], list[:2])
	if string(b) != "x1 20\n" || string(array) != text || !slices.Equal(list, []uint32{1, 20, 3}) {
		t.Errorf("Write = %q; arguments %q, %v", b, array, list)
	}
	fill(b)
	if string(array) != text {
		t.Errorf("a change to the result: %q", array)
	}
	b = Write(array[:1], list)
	fill(array)
	if string(b) != "x1 20 3\n" {
		t.Errorf("a change to the argument: %q", b)
	}
	b, c := Write([]byte("x"), list), Write([]byte("x"), list)
	fill(b)
	if string(c) != "x1 20 3\n" {
		t.Errorf("a change to another result: %q", c)
	}
}

// P1.3: a line that was written is read as its numbers, and what follows it remains.
func TestWrittenIsRead(t *testing.T) {
	for _, l := range [][]uint32{nil, {0}, {7}, {0, 0}, {1, 20, 300}, {math.MaxUint32}, ladder()} {
		for _, tail := range []string{"", "\n", "5 6\n", " x"} {
			line, rest, e := Line(append(Write(nil, l), tail...))
			if e != api.OK || string(rest) != tail {
				t.Fatalf("Line of %v: rest %q, %d", l, rest, e)
			}
			if got, e := Numbers(line, len(l), len(l), math.MaxUint32); !slices.Equal(got, l) || e != api.OK {
				t.Errorf("%v was read as %v, %d", l, got, e)
			}
		}
	}
}

// ladder has numbers of every length.
func ladder() []uint32 {
	var l []uint32
	for i := range 32 {
		n := uint32(1) << i
		l = append(l, n-1, n, n+1)
	}
	for n := uint64(1); n <= math.MaxUint32; n *= 10 {
		l = append(l, uint32(n-1), uint32(n))
	}
	return l
}

// P1.3: of all short lines of some digits, blanks and a letter: those that are read are written as the same bytes, and they are those that are made of numbers.
func TestReadIsWritten(t *testing.T) {
	read := 0
	forAll("012 x", 6, func(line string) {
		l, e := Numbers([]byte(line), 0, len(line), 9999)
		if want := judge(line, 9999); e != want {
			t.Errorf("Numbers(%q): %d, not %d", line, e, want)
		}
		if e != api.OK {
			return
		}
		read++
		if b := Write([]byte("as before\n"), l); string(b) != "as before\n"+line+"\n" {
			t.Errorf("%q was written as %q", line, b)
		}
	})
	if read < 100 {
		t.Errorf("only %d lines were read", read)
	}
}

// judge tells by the library what Numbers has to answer for a line of any number of words.
func judge(line string, most uint64) api.Errno {
	if line == "" {
		return api.OK
	}
	words := strings.Split(line, " ")
	if slices.Contains(words, "") {
		return api.ErrForm
	}
	for _, w := range words {
		n, err := strconv.ParseUint(w, 10, 32)
		if err != nil || strconv.FormatUint(n, 10) != w {
			return api.ErrForm
		}
		if n > most {
			return api.ErrLimit
		}
	}
	return api.OK
}

// The chapter's table of examples.
func TestExamples(t *testing.T) {
	if line, rest, e := Line([]byte("ab\nc")); string(line) != "ab" || string(rest) != "c" || e != api.OK {
		t.Errorf("Line = %q, %q, %d", line, rest, e)
	}
	if _, _, e := Line([]byte("ab")); e != api.ErrShort {
		t.Errorf("Line: %d", e)
	}
	if words, e := Words([]byte("a b")); !slices.Equal(words, []string{"a", "b"}) || e != api.OK {
		t.Errorf("Words = %q, %d", words, e)
	}
	if _, e := Words([]byte("a  b")); e != api.ErrForm {
		t.Errorf("Words: %d", e)
	}
	if words, e := Words(nil); len(words) != 0 || e != api.OK {
		t.Errorf("Words = %q, %d", words, e)
	}
	if _, e := Number("007", 9); e != api.ErrForm {
		t.Errorf("Number: %d", e)
	}
	if _, e := Number("10", 9); e != api.ErrLimit {
		t.Errorf("Number: %d", e)
	}
	if l, e := Numbers([]byte("1 2 3"), 2, 3, 9); !slices.Equal(l, []uint32{1, 2, 3}) || e != api.OK {
		t.Errorf("Numbers = %v, %d", l, e)
	}
	if _, e := Numbers([]byte("1"), 2, 3, 9); e != api.ErrForm {
		t.Errorf("Numbers: %d", e)
	}
	if b := Write([]byte("x"), []uint32{1, 20}); string(b) != "x1 20\n" {
		t.Errorf("Write = %q", b)
	}
}
