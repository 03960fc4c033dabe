package tests

import (
	"math"
	"slices"
	"testing"

	"loop.example/roundturns/impl"
)

// fifths is the turn of the examples of the document.
var fifths = impl.Turn{Size: 12, Step: 7}

// golden is a turn with as many quotients as there may be.
var golden = impl.Turn{Size: 55, Step: 34}

// sevens is a turn of as many points as there may be, which steps over less than half the circle.
var sevens = impl.Turn{Size: 60, Step: 7}

// two is the turn with the fewest points.
var two = impl.Turn{Size: 2, Step: 1}

// badTurns are turns that are none: too few or too many points, a step out of its bounds, and a common divisor.
func badTurns() []impl.Turn {
	return []impl.Turn{
		{},
		{Size: 1, Step: 0},
		{Size: 1, Step: 1},
		{Size: 2, Step: 0},
		{Size: 2, Step: 2},
		{Size: 2, Step: 3},
		{Size: 0, Step: 1},
		{Size: 12, Step: 0},
		{Size: 12, Step: 8},
		{Size: 12, Step: 12},
		{Size: 12, Step: 13},
		{Size: 12, Step: -5},
		{Size: -12, Step: 7},
		{Size: -12, Step: -7},
		{Size: impl.MaxSize, Step: 2},
		{Size: impl.MaxSize, Step: impl.MaxSize},
		{Size: impl.MaxSize + 1, Step: 1},
		{Size: impl.MaxSize + 1, Step: impl.MaxSize},
		{Size: math.MaxInt, Step: 1},
		{Size: math.MaxInt, Step: math.MaxInt - 1},
		{Size: math.MinInt, Step: 1},
		{Size: math.MinInt, Step: math.MinInt},
		{Size: 12, Step: math.MaxInt},
		{Size: 12, Step: math.MinInt},
	}
}

// plainDivisor tells the greatest common divisor of two numbers that are 1 or more by trying one after the other.
func plainDivisor(a int, b int) int {
	for d := min(a, b); d > 1; d-- {
		if a%d == 0 && b%d == 0 {
			return d
		}
	}
	return 1
}

// allTurns makes every turn there is, without the program.
func allTurns() []impl.Turn {
	var turns []impl.Turn
	for size := 2; size <= impl.MaxSize; size++ {
		for step := 1; step < size; step++ {
			if plainDivisor(size, step) == 1 {
				turns = append(turns, impl.Turn{Size: size, Step: step})
			}
		}
	}
	return turns
}

// walk goes step by step round the circle of a turn, and notes where it is at each of its times.
func walk(t impl.Turn) []int {
	points := make([]int, t.Size)
	at := 0
	for time := range points {
		points[time] = at
		at += t.Step
		if at >= t.Size {
			at -= t.Size
		}
	}
	return points
}

// eachMany calls for each turn there is, with each number of points from a least one on.
func eachMany(least int, call func(turn impl.Turn, many int)) {
	for _, turn := range allTurns() {
		for many := least; many <= turn.Size; many++ {
			call(turn, many)
		}
	}
}

// badMany are numbers of points that are none of those in 1..Size.
func badMany(turn impl.Turn) []int {
	return []int{0, -1, -turn.Size, turn.Size + 1, 2 * turn.Size, impl.MaxSize + 1, math.MaxInt, math.MinInt}
}

// sortedWalk are the first so many points of a turn in ascending order.
func sortedWalk(turn impl.Turn, many int) []int {
	points := walk(turn)[:many]
	slices.Sort(points)
	return points
}

// total is the sum of a list.
func total(list []int) int {
	sum := 0
	for _, number := range list {
		sum += number
	}
	return sum
}

// eachBadPair calls with turns that are none, and with numbers of points that are less than a least one or too many.
func eachBadPair(least int, call func(turn impl.Turn, many int)) {
	for _, turn := range allTurns() {
		for _, many := range badMany(turn) {
			call(turn, many)
		}
		for many := 1; many < least; many++ {
			call(turn, many)
		}
	}
	for _, turn := range badTurns() {
		for _, many := range []int{0, 1, 2, 4, 12, turn.Size, math.MaxInt, math.MinInt} {
			call(turn, many)
		}
	}
}

// backwards is a list from its last number to its first one.
func backwards(list []int) []int {
	turned := slices.Clone(list)
	slices.Reverse(turned)
	return turned
}

// countIf counts the numbers of a list of which something holds.
func countIf(list []int, holds func(int) bool) int {
	count := 0
	for _, number := range list {
		if holds(number) {
			count++
		}
	}
	return count
}

// spoil writes over a list, and over the room behind it.
func spoil(list []int) {
	whole := list[:cap(list)]
	for place := range whole {
		whole[place] = -7
	}
}

// outside are numbers that are none of those from 0 on and less than a bound.
func outside(bound int) []int {
	return []int{-1, -bound, bound, bound + 1, 2 * bound, math.MaxInt, math.MinInt}
}

func wantNumber(t *testing.T, what string, of impl.Turn, got int, want int) {
	t.Helper()
	if got != want {
		t.Fatalf("%s of %v is %d, want %d", what, of, got, want)
	}
}

func wantTurn(t *testing.T, what string, of impl.Turn, got impl.Turn, want impl.Turn) {
	t.Helper()
	if got != want {
		t.Fatalf("%s of %v is %v, want %v", what, of, got, want)
	}
}

func wantList(t *testing.T, what string, of impl.Turn, got []int, want []int) {
	t.Helper()
	if !slices.Equal(got, want) {
		t.Fatalf("%s of %v is %v, want %v", what, of, got, want)
	}
}
