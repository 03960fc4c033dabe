package tests

import (
	"math"
	"slices"
	"testing"

	"loop.example/roundturns/impl"
)

// badTurns are turns that are none: too few or too many points, a step out of its bounds, and a common divisor.
func badTurns() []impl.Turn {
	return []impl.Turn{
		{},
		{Size: 1, Step: 0},
		{Size: 1, Step: 1},
		{Size: 2, Step: 0},
		{Size: 2, Step: 2},
		{Size: 2, Step: 3},
		{Size: 0, Step: 1},
		{Size: 12, Step: 0},
		{Size: 12, Step: 8},
		{Size: 12, Step: 12},
		{Size: 12, Step: 13},
		{Size: 12, Step: -5},
		{Size: -12, Step: 7},
		{Size: -12, Step: -7},
		{Size: impl.MaxSize, Step: 2},
		{Size: impl.MaxSize, Step: impl.MaxSize},
		{Size: impl.MaxSize + 1, Step: 1},
		{Size: impl.MaxSize + 1, Step: impl.MaxSize},
		{Size: math.MaxInt, Step: 1},
		{Size: math.MaxInt, Step: math.MaxInt - 1},
		{Size: math.MinInt, Step: 1},
		{Size: math.MinInt, Step: math.MinInt},
		{Size: 12, Step: math.MaxInt},
		{Size: 12, Step: math.MinInt},
	}
}

// plainDivisor tells the greatest common divisor of two numbers that are 1 or more by trying one after the other.
func plainDivisor(a int, b int) int {
	for d := min(a, b); d > 1; d-- {
		if a%d == 0 && b%d == 0 {
			return d
		}
	}
	return 1
}

// allTurns makes every turn there is, without the program.
func allTurns() []impl.Turn {
	var turns []impl.Turn
	for size := 2; size <= impl.MaxSize; size++ {
		for step := 1; step < size; step++ {
			if plainDivisor(size, step) == 1 {
				turns = append(turns, impl.Turn{Size: size, Step: step})
			}
		}
	}
	return turns
}

// walk goes step by step round the circle of a turn, and notes where it is at each of its times.
func walk(t impl.Turn) []int {
	points := make([]int, t.Size)
	at := 0
	for time := range points {
		points[time] = at
		at += t.Step
		if at >= t.Size {
			at -= t.Size
		}
	}
	return points
}

// outside are numbers that are none of those from 0 on and less than a bound.
func outside(bound int) []int {
	return []int{-1, -bound, bound, bound + 1, 2 * bound, math.MaxInt, math.MinInt}
}

func wantNumber(t *testing.T, what string, of impl.Turn, got int, want int) {
	t.Helper()
	if got != want {
		t.Fatalf("%s of %v is %d, want %d", what, of, got, want)
	}
}

func wantTurn(t *testing.T, what string, of impl.Turn, got impl.Turn, want impl.Turn) {
	t.Helper()
	if got != want {
		t.Fatalf("%s of %v is %v, want %v", what, of, got, want)
	}
}

func wantList(t *testing.T, what string, of impl.Turn, got []int, want []int) {
	t.Helper()
	if !slices.Equal(got, want) {
		t.Fatalf("%s of %v is %v, want %v", what, of, got, want)
	}
}
