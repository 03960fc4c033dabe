package tests

import (
	"math"
	"slices"
	"testing"

	"loop.example/roundturns/impl"
)

// signless is a number without its sign.
func signless(number int) int {
	if number < 0 {
		return -number
	}
	return number
}

// plainFar tells, for each number of times from 0 to Size, the greatest excess without its sign of the points less than any number.
func plainFar(turn impl.Turn) []int {
	far := make([]int, turn.Size+1)
	for wide := range turn.Size + 1 {
		for many, excess := range excesses(turn, wide) {
			far[many] = max(far[many], signless(excess))
		}
	}
	return far
}

// plainFrom tells, for each number of points from 0 to Size, the greatest excess without its sign of any arc of so many, which is made longer point by point.
func plainFrom(turn impl.Turn, many int) []int {
	hits := hitsOf(turn, many)
	far := make([]int, turn.Size+1)
	for from := range turn.Size {
		excess := 0
		for wide := 1; wide <= turn.Size; wide++ {
			excess += turn.Size*hits[(from+wide-1)%turn.Size] - many
			far[wide] = max(far[wide], signless(excess))
		}
	}
	return far
}

// farRows are FarFrom for each number of times from 0 to Size, and in each row for each number of points from 0 to Size.
func farRows(turn impl.Turn) [][]int {
	rows := make([][]int, turn.Size+1)
	for many := range rows {
		for wide := range turn.Size + 1 {
			rows[many] = append(rows[many], impl.FarFrom(turn, many, wide))
		}
	}
	return rows
}

// eachFew calls with each turn of 32 points or fewer, and with some of more, as all arcs of all turns take long to tell.
func eachFew(call func(turn impl.Turn)) {
	for _, turn := range allTurns() {
		if turn.Size <= 32 {
			call(turn)
		}
	}
	for _, turn := range append(utmostTurns(), golden, sevens, impl.Turn{Size: 60, Step: 31}, impl.Turn{Size: 59, Step: 58}) {
		call(turn)
	}
}

// plainDistances are how far the nearest points above 0 and below it are, of two points or more.
func plainDistances(turn impl.Turn, many int) (int, int) {
	sorted := sortedWalk(turn, many)
	return sorted[1], turn.Size - sorted[many-1]
}

func wantFar(t *testing.T, turn impl.Turn, many int, want int) {
	t.Helper()
	if got := impl.FarOf(turn, many); got != want {
		t.Fatalf("FarOf %d times of %v is %d, want %d", many, turn, got, want)
	}
}

func wantFrom(t *testing.T, turn impl.Turn, many int, wide int, want int) {
	t.Helper()
	if got := impl.FarFrom(turn, many, wide); got != want {
		t.Fatalf("FarFrom of %v, %d times, %d points, is %d, want %d", turn, many, wide, got, want)
	}
}

func wantGreatest(t *testing.T, turn impl.Turn, many int, want int) {
	t.Helper()
	if got := impl.GreatestGap(turn, many); got != want {
		t.Fatalf("GreatestGap of %d points of %v is %d, want %d", many, turn, got, want)
	}
}

func wantLeast(t *testing.T, turn impl.Turn, many int, want int) {
	t.Helper()
	if got := impl.LeastGap(turn, many); got != want {
		t.Fatalf("LeastGap of %d points of %v is %d, want %d", many, turn, got, want)
	}
}

func TestPromise67TheGreatestExcess(t *testing.T) {
	for _, turn := range allTurns() {
		for many, want := range plainFar(turn) {
			wantFar(t, turn, many, want)
		}
	}
}

func TestPromise67DigitsBoundIt(t *testing.T) {
	for _, turn := range allTurns() {
		for number, digits := range allDigits(turn) {
			if far, bound := impl.FarOf(turn, number), 2*turn.Size*total(digits); far < 0 || far > bound {
				t.Fatalf("FarOf %d times of %v is %d, and at most %d", number, turn, far, bound)
			}
		}
	}
}

func TestPromise67NumbersOfTheBasis(t *testing.T) {
	for _, turn := range allTurns() {
		for _, number := range plainBasis(turn) {
			if far := impl.FarOf(turn, number); far < 0 || far > 2*turn.Size {
				t.Fatalf("FarOf %d times, a number of the basis of %v, is %d", number, turn, far)
			}
		}
	}
}

func TestPromise67TheEnds(t *testing.T) {
	for _, turn := range allTurns() {
		wantFar(t, turn, -1, -1)
		wantFar(t, turn, 0, 0)
		wantFar(t, turn, 1, turn.Size-1)
		// Each point adds Size at once, and takes it away little by little.
		if turn.Size > 2 {
			wantFar(t, turn, 2, max(turn.Size-2, signless(turn.Size-2*turn.Step), 2*turn.Size-2*turn.Step-2))
		}
		// All points but one lack just that at the last time.
		wantFar(t, turn, turn.Size-1, max(turn.Size-turn.Step, turn.Step-1))
		wantFar(t, turn, turn.Size, 0)
		wantFar(t, turn, turn.Size+1, -1)
	}
}

func TestPromise67StepsOfOne(t *testing.T) {
	ones, others := stepsOfOne()
	for place, turn := range ones {
		for many := 1; many <= turn.Size; many++ {
			lack := turn.Size - many
			wantFar(t, turn, many, many*lack)
			// The other way 0 alone is at this end.
			wantFar(t, others[place], many, max(1, many-1)*lack)
		}
	}
}

func TestPromise67KnownNumbers(t *testing.T) {
	for many, want := range []int{0, 11, 10, 15, 12, 11, 6, 6, 12, 9, 10, 6, 0, -1} {
		wantFar(t, fifths, many, want)
	}
	for many, want := range []int{0, 1, 0, -1} {
		wantFar(t, two, many, want)
	}
	for many, want := range map[int]int{2: 53, 5: 50, 8: 68, 20: 65, 33: 55, 34: 33, 54: 33} {
		wantFar(t, golden, many, want)
	}
	wantFar(t, impl.Turn{Size: 60, Step: 1}, 30, 900)
	wantFar(t, impl.Turn{Size: 60, Step: 59}, 30, 870)
}

func TestPromise67BadArguments(t *testing.T) {
	eachBadLetters(func(turn impl.Turn, many int) {
		wantFar(t, turn, many, -1)
	})
}

func TestPromise68TheGreatestExcessOfArcs(t *testing.T) {
	eachMany(0, func(turn impl.Turn, many int) {
		for wide, want := range plainFrom(turn, many) {
			wantFrom(t, turn, many, wide, want)
		}
	})
}

func TestPromise68DigitsBoundIt(t *testing.T) {
	eachFew(func(turn impl.Turn) {
		sums := allDigits(turn)
		for many, row := range farRows(turn)[:turn.Size] {
			for wide, far := range row {
				if bound := 2 * turn.Size * total(sums[many]); far < 0 || far > bound {
					t.Fatalf("FarFrom of %v, %d times, %d points, is %d, and at most %d", turn, many, wide, far, bound)
				}
			}
		}
	})
}

func TestPromise68WhatLacksIsOffAsMuch(t *testing.T) {
	eachFew(func(turn impl.Turn) {
		rows := farRows(turn)
		for many, row := range rows {
			wantList(t, "FarFrom at the times that lack", turn, rows[turn.Size-many], row)
			wantList(t, "FarFrom of the points that lack", turn, backwards(row), row)
		}
	})
}

func TestPromise68AtLeastTheExcessFromNoughtOn(t *testing.T) {
	eachFew(func(turn impl.Turn) {
		rows := farRows(turn)
		for wide := range turn.Size + 1 {
			for many, excess := range excesses(turn, wide) {
				if rows[many][wide] < signless(excess) {
					t.Fatalf("FarFrom of %v, %d times, %d points, is %d, and the excess is %d", turn, many, wide, rows[many][wide], excess)
				}
			}
		}
	})
}

func TestPromise68TheEnds(t *testing.T) {
	eachMany(0, func(turn impl.Turn, number int) {
		wantFrom(t, turn, 0, number, 0)
		wantFrom(t, turn, number, 0, 0)
		wantFrom(t, turn, turn.Size, number, 0)
		wantFrom(t, turn, number, turn.Size, 0)
		wantFrom(t, turn, turn.Size+1, number, -1)
		wantFrom(t, turn, number, turn.Size+1, -1)
		if number > 0 && number < turn.Size {
			// One point is met or not, and so is one time.
			want := max(number, turn.Size-number)
			wantFrom(t, turn, 1, number, want)
			wantFrom(t, turn, number, 1, want)
			wantFrom(t, turn, turn.Size-1, number, want)
			wantFrom(t, turn, number, turn.Size-1, want)
		}
	})
}

func TestPromise68ArcsThatGoOverNought(t *testing.T) {
	ones, others := stepsOfOne()
	for place, turn := range ones {
		for many := range turn.Size + 1 {
			for wide := range turn.Size + 1 {
				most := turn.Size*min(many, wide) - many*wide
				fewest := many*wide - turn.Size*max(0, many+wide-turn.Size)
				// The other way all points but 0 are the greatest ones, so the arc that meets them all goes over 0.
				wantFrom(t, turn, many, wide, max(most, fewest))
				wantFrom(t, others[place], many, wide, max(most, fewest))
			}
		}
	}
}

func TestPromise68KnownNumbers(t *testing.T) {
	known := map[int][]int{
		1: {0, 11, 10, 9, 8, 7, 6, 7, 8, 9, 10, 11, 0},
		2: {0, 10, 8, 6, 8, 10, 12, 10, 8, 6, 8, 10, 0},
		4: {0, 8, 8, 12, 16, 8, 12, 8, 16, 12, 8, 8, 0},
		5: {0, 7, 10, 9, 8, 11, 6, 11, 8, 9, 10, 7, 0},
		6: {0, 6, 12, 6, 12, 6, 12, 6, 12, 6, 12, 6, 0},
	}
	for many, row := range known {
		for wide, want := range row {
			wantFrom(t, fifths, many, wide, want)
			wantFrom(t, fifths, 12-many, wide, want)
		}
	}
	for wide, want := range map[int]int{1: 35, 2: 40, 5: 45, 8: 60, 20: 70, 34: 35, 54: 35} {
		wantFrom(t, golden, 20, wide, want)
	}
	wantFrom(t, two, 1, 1, 1)
}

func TestPromise68BadArguments(t *testing.T) {
	eachBadVisit(func(turn impl.Turn, many int, wide int) {
		wantFrom(t, turn, many, wide, -1)
	})
	wantFrom(t, fifths, math.MinInt, math.MaxInt, -1)
}

func TestPromise69GreatestGaps(t *testing.T) {
	eachMany(1, func(turn impl.Turn, many int) {
		wantGreatest(t, turn, many, slices.Max(plainGaps(turn, many)))
	})
}

func TestPromise69GreatestGapsAreNeverLessThanTheShare(t *testing.T) {
	eachMany(1, func(turn impl.Turn, many int) {
		if gap := impl.GreatestGap(turn, many); gap*many < turn.Size {
			t.Fatalf("GreatestGap of %d points of %v is %d, and so less than the share of each", many, turn, gap)
		}
	})
}

func TestPromise69GreatestGapsNeverGrow(t *testing.T) {
	eachMany(2, func(turn impl.Turn, many int) {
		gap, before := impl.GreatestGap(turn, many), impl.GreatestGap(turn, many-1)
		if gap < 1 || gap > before {
			t.Fatalf("GreatestGap of %d points of %v is %d, and with one less %d", many, turn, gap, before)
		}
		if up, down := plainDistances(turn, many); gap > up+down {
			t.Fatalf("GreatestGap of %d points of %v is %d, and the distances are %d and %d", many, turn, gap, up, down)
		}
	})
}

func TestPromise69TheEnds(t *testing.T) {
	for _, turn := range allTurns() {
		wantGreatest(t, turn, 0, -1)
		wantGreatest(t, turn, 1, turn.Size)
		wantGreatest(t, turn, 2, max(turn.Step, turn.Size-turn.Step))
		// All points but one leave one gap of 2, around that at the last time.
		wantGreatest(t, turn, turn.Size-1, 2)
		wantGreatest(t, turn, turn.Size, 1)
		wantGreatest(t, turn, turn.Size+1, -1)
	}
}

func TestPromise69StepsOfOne(t *testing.T) {
	ones, others := stepsOfOne()
	for place, turn := range ones {
		for many := 1; many <= turn.Size; many++ {
			wantGreatest(t, turn, many, turn.Size-many+1)
			wantGreatest(t, others[place], many, turn.Size-many+1)
		}
	}
}

func TestPromise69KnownGaps(t *testing.T) {
	for many, want := range []int{-1, 12, 7, 5, 5, 3, 3, 2, 2, 2, 2, 2, 1, -1} {
		wantGreatest(t, fifths, many, want)
	}
	for many, want := range map[int]int{2: 34, 5: 13, 8: 8, 20: 5, 33: 3, 34: 2, 54: 2} {
		wantGreatest(t, golden, many, want)
	}
	for many, want := range map[int]int{2: 53, 5: 32, 8: 11, 9: 7, 20: 4, 33: 3, 59: 2} {
		wantGreatest(t, sevens, many, want)
	}
}

func TestPromise69BadArguments(t *testing.T) {
	eachBadPair(1, func(turn impl.Turn, many int) {
		wantGreatest(t, turn, many, -1)
	})
}

func TestPromise70LeastGaps(t *testing.T) {
	eachMany(1, func(turn impl.Turn, many int) {
		wantLeast(t, turn, many, slices.Min(plainGaps(turn, many)))
	})
}

func TestPromise70LeastGapsAreNearestPoints(t *testing.T) {
	eachMany(2, func(turn impl.Turn, many int) {
		up, down := plainDistances(turn, many)
		wantLeast(t, turn, many, min(up, down))
		by := impl.GapsBy(turn, many)
		wantLeast(t, turn, many, min(by[0], by[2]))
	})
}

func TestPromise70LeastGapsNeverGrow(t *testing.T) {
	eachMany(1, func(turn impl.Turn, many int) {
		gap := impl.LeastGap(turn, many)
		if gap < 1 || gap*many > turn.Size {
			t.Fatalf("LeastGap of %d points of %v is %d, and so more than the share of each", many, turn, gap)
		}
		if many < turn.Size && impl.LeastGap(turn, many+1) > gap {
			t.Fatalf("LeastGap of %d points of %v is %d, and with one more it is greater", many, turn, gap)
		}
	})
}

func TestPromise70TheEnds(t *testing.T) {
	for _, turn := range allTurns() {
		wantLeast(t, turn, 0, -1)
		wantLeast(t, turn, 1, turn.Size)
		wantLeast(t, turn, 2, min(turn.Step, turn.Size-turn.Step))
		if turn.Size > 2 {
			wantLeast(t, turn, turn.Size-1, 1)
		}
		wantLeast(t, turn, turn.Size, 1)
		wantLeast(t, turn, turn.Size+1, -1)
	}
}

func TestPromise70StepsOfOne(t *testing.T) {
	ones, others := stepsOfOne()
	for place, turn := range ones {
		for many := 2; many <= turn.Size; many++ {
			wantLeast(t, turn, many, 1)
			wantLeast(t, others[place], many, 1)
		}
	}
}

func TestPromise70KnownGaps(t *testing.T) {
	for many, want := range []int{-1, 12, 5, 2, 2, 2, 1, 1, 1, 1, 1, 1, 1, -1} {
		wantLeast(t, fifths, many, want)
	}
	for many, want := range map[int]int{2: 21, 5: 8, 8: 5, 20: 2, 33: 1, 34: 1, 54: 1} {
		wantLeast(t, golden, many, want)
	}
	for many, want := range map[int]int{2: 7, 5: 7, 8: 7, 9: 4, 20: 1, 33: 1, 59: 1} {
		wantLeast(t, sevens, many, want)
	}
}

func TestPromise70BadArguments(t *testing.T) {
	eachBadPair(1, func(turn impl.Turn, many int) {
		wantLeast(t, turn, many, -1)
	})
}
