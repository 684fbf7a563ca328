package sample

import (
	"math"
	"strconv"
	"strings"

	"inquest/api"
)

const mostVars = api.MaxVars * api.MaxFrames

// NoLits are no literals of variables 1 to 3. Cut to fewer bits, some of them are.
func NoLits() []int {
	return []int{0, 4, -4, 5, -5, 256, 257, 1<<31 + 1, 1<<32 + 1, -1<<32 + 1, -1<<32 - 1, math.MaxInt, math.MinInt, math.MinInt + 1}
}

// NoVars are no numbers of variables.
func NoVars() []int {
	return []int{-1, -3, mostVars + 1, mostVars + 3, 1 << 31, 1 << 32, 1<<32 + 3, math.MaxInt, math.MinInt, math.MinInt + 3}
}

// Lits answers the numbers of a text.
func Lits(text string) []int {
	var l []int
	for _, w := range strings.Fields(text) {
		n, err := strconv.Atoi(w)
		if err != nil {
			panic(err)
		}
		l = append(l, n)
	}
	return l
}

// Clauses answers those that a text tells, with a semicolon behind each of them.
func Clauses(text string) [][]int {
	var l [][]int
	for text != "" {
		c, rest, ended := strings.Cut(text, ";")
		if !ended {
			panic(text)
		}
		l = append(l, Lits(c))
		text = rest
	}
	return l
}

// SomeLits answers as many literals of the variables; one may occur twice, or with its negation.
func SomeLits(roll func(int) int, vars, many int) []int {
	l := make([]int, many)
	for i := range l {
		l[i] = 1 + roll(vars)
		if roll(2) == 0 {
			l[i] = -l[i]
		}
	}
	return l
}

// SomeClauses answers as many clauses, mostly of a few literals; seldom, one is empty.
func SomeClauses(roll func(int) int, vars, many int) [][]int {
	l := make([][]int, many)
	for i := range l {
		l[i] = SomeLits(roll, vars, 1+roll(4)+roll(20)/19)
		if roll(200) == 0 {
			l[i] = nil
		}
	}
	return l
}
