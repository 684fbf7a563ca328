// Package lex is layer 1: see shared/doc/01-lex.md.
package lex

import (
	"bytes"
	"strconv"

	"inquest/api"
)

const (
	blank   = ' '
	lineEnd = '\n'
)

// Line copies both parts: what it answers shares no memory with b.
func Line(b []byte) (line, rest []byte, e api.Errno) {
	for i, x := range b {
		if x == lineEnd {
			return bytes.Clone(b[:i]), bytes.Clone(b[i+1:]), api.OK
		}
	}
	return nil, nil, api.ErrShort
}

func Words(line []byte) ([]string, api.Errno) {
	if len(line) == 0 {
		return nil, api.OK
	}
	var words []string
	start := 0
scan:
	for i, x := range line {
		switch {
		case x != blank:
		case i == start:
			break scan
		default:
			words = append(words, string(line[start:i]))
			start = i + 1
		}
	}
	// No word begins at start if the scan stopped there, or if the line ended there.
	if start == len(line) || line[start] == blank {
		return nil, api.ErrForm
	}
	return append(words, string(line[start:])), api.OK
}

func Number(s string, most uint32) (uint32, api.Errno) {
	if s == "" || s[0] == '0' && len(s) > 1 {
		return 0, api.ErrForm
	}
	n, over := uint64(0), false
	for _, x := range []byte(s) {
		if x < '0' || x > '9' {
			return 0, api.ErrForm
		}
		// Beyond the limit digits are only looked at: more of them would overflow n.
		if !over {
			n = 10*n + uint64(x-'0')
			over = n > uint64(most)
		}
	}
	if over {
		return 0, api.ErrLimit
	}
	return uint32(n), api.OK
}

func Numbers(line []byte, least, many int, most uint32) ([]uint32, api.Errno) {
	words, e := Words(line)
	if e != api.OK {
		return nil, e
	}
	if len(words) < least || len(words) > many {
		return nil, api.ErrForm
	}
	numbers := make([]uint32, len(words))
	for i, w := range words {
		if numbers[i], e = Number(w, most); e != api.OK {
			return nil, e
		}
	}
	return numbers, api.OK
}

func Write(b []byte, l []uint32) []byte {
	// Each number takes at least a digit, and a blank or the line end.
	out := make([]byte, 0, len(b)+2*len(l)+1)
	out = append(out, b...)
	for i, n := range l {
		if i > 0 {
			out = append(out, blank)
		}
		out = strconv.AppendUint(out, uint64(n), 10)
	}
	return append(out, lineEnd)
}
