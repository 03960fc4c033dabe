package tests

import (
	"math"
	"slices"
	"testing"

	"loop.example/roundturns/impl"
)

// plainReturns goes once round from 0 to 0, and notes at each point of the arc, for the one at which it was last, how many steps this took, and where it is now.
func plainReturns(turn impl.Turn, wide int) ([]int, []int) {
	returns, landings := make([]int, wide), make([]int, wide)
	last, steps := 0, 0
	for _, point := range append(walk(turn)[1:], 0) {
		steps++
		if point < wide {
			returns[last], landings[last] = steps, point
			last, steps = point, 0
		}
	}
	return returns, landings
}

// plainTimes are the times of return of an arc, each once.
func plainTimes(turn impl.Turn, wide int) []int {
	returns, _ := plainReturns(turn, wide)
	slices.Sort(returns)
	return slices.Compact(returns)
}

// plainFirst tells the first time from 1 on at which a walked point is one of which something holds.
func plainFirst(turn impl.Turn, holds func(point int) bool) int {
	return 1 + slices.IndexFunc(walk(turn)[1:], holds)
}

// timeOfOne is the time at which a turn is at 1.
func timeOfOne(turn impl.Turn) int {
	return plainFirst(turn, func(point int) bool { return point == 1 })
}

// toldBy adds up how often a list as that of ReturnsBy tells a time.
func toldBy(by []int, time int) int {
	told := 0
	for place := 0; place+1 < len(by); place += 2 {
		if by[place] == time {
			told += by[place+1]
		}
	}
	return told
}

// eachArcPoint calls with each point of each arc of each turn there is.
func eachArcPoint(call func(turn impl.Turn, wide int, point int)) {
	eachMany(1, func(turn impl.Turn, wide int) {
		for point := range wide {
			call(turn, wide, point)
		}
	})
}

// eachBadArcPoint calls with turns that are none, with arcs that are none, and with points that are not of the arc.
func eachBadArcPoint(call func(turn impl.Turn, wide int, point int)) {
	eachMany(1, func(turn impl.Turn, wide int) {
		for _, point := range append(outside(wide), turn.Size) {
			call(turn, wide, point)
		}
	})
	eachBadPair(1, func(turn impl.Turn, wide int) {
		for _, point := range []int{-1, 0, 1, 2, wide, wide - 1, turn.Size - 1, math.MaxInt, math.MinInt} {
			call(turn, wide, point)
		}
	})
}

// timesAround are times of return of an arc, those beside them, and such ones that are none.
func timesAround(turn impl.Turn, wide int) []int {
	times := append(outside(turn.Size), 0, 1, 2)
	if turn.Size <= 16 {
		times = append(times, upTo(turn.Size)...)
	}
	for _, time := range plainTimes(turn, wide) {
		times = append(times, time-1, time, time+1)
	}
	return times
}

// wantReturn holds the time of return of a point of an arc, and where it lands, against those of the program.
func wantReturn(t *testing.T, turn impl.Turn, wide int, point int, steps int, landing int) {
	t.Helper()
	wantSteps(t, turn, wide, point, steps)
	wantLanding(t, turn, wide, point, landing)
}

func wantSteps(t *testing.T, turn impl.Turn, wide int, point int, want int) {
	t.Helper()
	if got := impl.ReturnOf(turn, wide, point); got != want {
		t.Fatalf("ReturnOf %d, of %v and an arc of %d, is %d, want %d", point, turn, wide, got, want)
	}
}

func wantLanding(t *testing.T, turn impl.Turn, wide int, point int, want int) {
	t.Helper()
	if got := impl.LandsAt(turn, wide, point); got != want {
		t.Fatalf("LandsAt from %d, of %v and an arc of %d, is %d, want %d", point, turn, wide, got, want)
	}
}

func wantLong(t *testing.T, turn impl.Turn, wide int, time int, want int) {
	t.Helper()
	if got := impl.ReturnsLong(turn, wide, time); got != want {
		t.Fatalf("ReturnsLong %d, of %v and an arc of %d, is %d, want %d", time, turn, wide, got, want)
	}
}

func TestPromise39TimesOfReturn(t *testing.T) {
	eachMany(1, func(turn impl.Turn, wide int) {
		returns, _ := plainReturns(turn, wide)
		for point, want := range returns {
			wantSteps(t, turn, wide, point, want)
		}
	})
}

func TestPromise39AllReturnsGoRoundTheCircle(t *testing.T) {
	eachMany(1, func(turn impl.Turn, wide int) {
		sum := 0
		for point := range wide {
			steps := impl.ReturnOf(turn, wide, point)
			if steps < 1 || steps > turn.Size {
				t.Fatalf("ReturnOf %d, of %v and an arc of %d, is %d", point, turn, wide, steps)
			}
			sum += steps
		}
		wantNumber(t, "all returns together", turn, sum, turn.Size)
	})
}

func TestPromise39OnePointAndTwoPoints(t *testing.T) {
	for _, turn := range allTurns() {
		wantSteps(t, turn, 1, 0, turn.Size)
		wantSteps(t, turn, 1, 1, -1)
		wantSteps(t, turn, 2, 0, timeOfOne(turn))
		wantSteps(t, turn, 2, 1, turn.Size-timeOfOne(turn))
		wantSteps(t, turn, 2, 2, -1)
	}
}

func TestPromise39AllPointsButOneAndTheWholeCircle(t *testing.T) {
	for _, turn := range allTurns() {
		// From just this point the next step is to the point left out.
		before := turn.Size - 1 - turn.Step
		for point := range turn.Size - 1 {
			want := 1
			if point == before {
				want = 2
			}
			wantSteps(t, turn, turn.Size-1, point, want)
			wantSteps(t, turn, turn.Size, point, 1)
		}
		wantSteps(t, turn, turn.Size-1, turn.Size-1, -1)
		wantSteps(t, turn, turn.Size, turn.Size-1, 1)
		wantSteps(t, turn, turn.Size, turn.Size, -1)
	}
}

func TestPromise39StepsOfOne(t *testing.T) {
	ones, others := stepsOfOne()
	for place, turn := range ones {
		for wide := 1; wide <= turn.Size; wide++ {
			for point := range wide {
				up, down := 1, 1
				if point == wide-1 {
					up = turn.Size - wide + 1
				}
				if point == 0 {
					down = turn.Size - wide + 1
				}
				wantSteps(t, turn, wide, point, up)
				wantSteps(t, others[place], wide, point, down)
			}
			wantSteps(t, turn, wide, wide, -1)
			wantSteps(t, others[place], wide, wide, -1)
		}
	}
}

func TestPromise39KnownTimes(t *testing.T) {
	known := map[int][]int{
		1:  {12, -1},
		2:  {7, 5, -1},
		3:  {2, 5, 5, -1},
		4:  {2, 2, 5, 3, -1},
		7:  {2, 2, 2, 2, 2, 1, 1, -1},
		11: {1, 1, 1, 1, 2, 1, 1, 1, 1, 1, 1, -1},
		12: {1, 1, 1, 1, 1, 1, 1, 1, 1, 1, 1, 1, -1},
	}
	for wide, list := range known {
		for point, want := range list {
			wantSteps(t, fifths, wide, point, want)
		}
	}
	for point, want := range []int{5, 5, 13, 8, 8, 8, 8, -1} {
		wantSteps(t, golden, 7, point, want)
	}
	wantSteps(t, two, 1, 0, 2)
	wantSteps(t, two, 2, 0, 1)
	wantSteps(t, two, 2, 1, 1)
}

func TestPromise39BadArguments(t *testing.T) {
	eachBadArcPoint(func(turn impl.Turn, wide int, point int) {
		wantSteps(t, turn, wide, point, -1)
	})
}

func TestPromise40Landings(t *testing.T) {
	eachMany(1, func(turn impl.Turn, wide int) {
		_, landings := plainReturns(turn, wide)
		for point, want := range landings {
			wantLanding(t, turn, wide, point, want)
		}
	})
}

func TestPromise40EachPointIsLandedAtOnce(t *testing.T) {
	eachMany(1, func(turn impl.Turn, wide int) {
		landed := make([]int, wide)
		for point := range wide {
			at := impl.LandsAt(turn, wide, point)
			if at < 0 || at >= wide {
				t.Fatalf("LandsAt from %d, of %v and an arc of %d, is %d", point, turn, wide, at)
			}
			landed[at]++
		}
		wantNumber(t, "the points landed at once", turn, countIf(landed, func(often int) bool { return often == 1 }), wide)
	})
}

func TestPromise40ItIsWhereTheReturnEnds(t *testing.T) {
	eachArcPoint(func(turn impl.Turn, wide int, point int) {
		steps := impl.ReturnOf(turn, wide, point)
		wantLanding(t, turn, wide, point, (point+steps*turn.Step)%turn.Size)
	})
}

func TestPromise40OnePointAndTwoPoints(t *testing.T) {
	for _, turn := range allTurns() {
		wantLanding(t, turn, 1, 0, 0)
		wantLanding(t, turn, 1, 1, -1)
		wantLanding(t, turn, 2, 0, 1)
		wantLanding(t, turn, 2, 1, 0)
		wantLanding(t, turn, 2, 2, -1)
	}
}

func TestPromise40AllPointsButOneAndTheWholeCircle(t *testing.T) {
	for _, turn := range allTurns() {
		for point := range turn.Size - 1 {
			next := (point + turn.Step) % turn.Size
			wantLanding(t, turn, turn.Size, point, next)
			if next == turn.Size-1 {
				// The point left out is gone over.
				next = turn.Step - 1
			}
			wantLanding(t, turn, turn.Size-1, point, next)
		}
		wantLanding(t, turn, turn.Size-1, turn.Size-1, -1)
		wantLanding(t, turn, turn.Size, turn.Size-1, turn.Step-1)
		wantLanding(t, turn, turn.Size, turn.Size, -1)
	}
}

func TestPromise40TheEndsOfAnArc(t *testing.T) {
	eachArcPoint(func(turn impl.Turn, wide int, point int) {
		steps, next := impl.ReturnOf(turn, wide, point), (point+turn.Step)%turn.Size
		switch next {
		case 0, wide - 1:
			wantReturn(t, turn, wide, point, 1, next)
		case wide, turn.Size - 1:
			// Just behind the arc, and just before it, it is not there yet.
			if steps < 2 {
				t.Fatalf("ReturnOf %d, of %v and an arc of %d, is %d", point, turn, wide, steps)
			}
		}
	})
}

func TestPromise40StepsOfOne(t *testing.T) {
	ones, others := stepsOfOne()
	for place, turn := range ones {
		for wide := 1; wide <= turn.Size; wide++ {
			for point := range wide {
				wantLanding(t, turn, wide, point, (point+1)%wide)
				wantLanding(t, others[place], wide, point, (point+wide-1)%wide)
			}
		}
	}
}

func TestPromise40KnownPoints(t *testing.T) {
	known := map[int][]int{
		1:  {0, -1},
		2:  {1, 0, -1},
		3:  {2, 0, 1, -1},
		4:  {2, 3, 1, 0, -1},
		7:  {2, 3, 4, 5, 6, 0, 1, -1},
		11: {7, 8, 9, 10, 6, 0, 1, 2, 3, 4, 5, -1},
		12: {7, 8, 9, 10, 11, 0, 1, 2, 3, 4, 5, 6, -1},
	}
	for wide, list := range known {
		for point, want := range list {
			wantLanding(t, fifths, wide, point, want)
		}
	}
	for point, want := range []int{5, 6, 4, 0, 1, 2, 3, -1} {
		wantLanding(t, golden, 7, point, want)
	}
	wantLanding(t, two, 1, 0, 0)
	wantLanding(t, two, 2, 0, 1)
	wantLanding(t, two, 2, 1, 0)
}

func TestPromise40BadArguments(t *testing.T) {
	eachBadArcPoint(func(turn impl.Turn, wide int, point int) {
		wantLanding(t, turn, wide, point, -1)
	})
}

func TestPromise41ReturnsTakeThreeTimesAtMost(t *testing.T) {
	eachMany(1, func(turn impl.Turn, wide int) {
		times := impl.ReturnTimes(turn, wide)
		wantList(t, "ReturnTimes", turn, times, plainTimes(turn, wide))
		if len(times) < 1 || len(times) > 3 {
			t.Fatalf("the returns of %v to an arc of %d take %d times", turn, wide, len(times))
		}
		if len(times) == 3 {
			wantNumber(t, "the greatest time", turn, times[2], times[0]+times[1])
		}
	})
}

func TestPromise41FewPointsAndNearlyAll(t *testing.T) {
	for _, turn := range allTurns() {
		wantList(t, "ReturnTimes of one point", turn, impl.ReturnTimes(turn, 1), []int{turn.Size})
		wantList(t, "ReturnTimes of all points", turn, impl.ReturnTimes(turn, turn.Size), []int{1})
		wantList(t, "ReturnTimes of one point more", turn, impl.ReturnTimes(turn, turn.Size+1), nil)
		if turn.Size > 2 {
			// It is the same time for both points just if there are no others.
			one := timeOfOne(turn)
			wantList(t, "ReturnTimes of two points", turn, impl.ReturnTimes(turn, 2), []int{min(one, turn.Size-one), max(one, turn.Size-one)})
			wantList(t, "ReturnTimes of all points but one", turn, impl.ReturnTimes(turn, turn.Size-1), []int{1, 2})
		}
	}
	wantList(t, "ReturnTimes", two, impl.ReturnTimes(two, 1), []int{2})
	wantList(t, "ReturnTimes", two, impl.ReturnTimes(two, 2), []int{1})
}

func TestPromise41StepsOfOne(t *testing.T) {
	ones, others := stepsOfOne()
	for place, turn := range ones {
		for wide := 2; wide < turn.Size; wide++ {
			want := []int{1, turn.Size - wide + 1}
			wantList(t, "ReturnTimes", turn, impl.ReturnTimes(turn, wide), want)
			wantList(t, "ReturnTimes", others[place], impl.ReturnTimes(others[place], wide), want)
		}
	}
}

func TestPromise41KnownTimes(t *testing.T) {
	known := [][]int{{12}, {5, 7}, {2, 5}, {2, 3, 5}, {2, 3}, {1, 2, 3}, {1, 2}, {1, 2}, {1, 2}, {1, 2}, {1, 2}, {1}}
	for place, want := range known {
		wantList(t, "ReturnTimes", fifths, impl.ReturnTimes(fifths, place+1), want)
	}
	wantList(t, "ReturnTimes", golden, impl.ReturnTimes(golden, 7), []int{5, 8, 13})
	wantList(t, "ReturnTimes", golden, impl.ReturnTimes(golden, 8), []int{5, 8})
	wantList(t, "ReturnTimes", golden, impl.ReturnTimes(golden, 20), []int{2, 3, 5})
}

func TestPromise41BadArguments(t *testing.T) {
	eachBadPair(1, func(turn impl.Turn, wide int) {
		wantList(t, "ReturnTimes of none", turn, impl.ReturnTimes(turn, wide), nil)
	})
}

func TestPromise41TimesAreNewEachTime(t *testing.T) {
	wantNewLists(t, "ReturnTimes", func(turn impl.Turn) []int { return impl.ReturnTimes(turn, turn.Size/2) })
	wantNewLists(t, "ReturnTimes of all points", func(turn impl.Turn) []int { return impl.ReturnTimes(turn, turn.Size) })
}

func TestPromise42PointsAreCounted(t *testing.T) {
	eachMany(1, func(turn impl.Turn, wide int) {
		returns, _ := plainReturns(turn, wide)
		for _, time := range timesAround(turn, wide) {
			wantLong(t, turn, wide, time, countIf(returns, func(other int) bool { return other == time }))
		}
	})
}

func TestPromise42TwoTimesTellAllReturns(t *testing.T) {
	eachMany(2, func(turn impl.Turn, wide int) {
		by, times := impl.ReturnsBy(turn, wide), impl.ReturnTimes(turn, wide)
		all := 0
		for _, time := range times {
			wantLong(t, turn, wide, time, toldBy(by, time))
			all += toldBy(by, time)
		}
		wantNumber(t, "the points that return", turn, all, wide)
		for _, time := range timesAround(turn, wide) {
			if !slices.Contains(times, time) {
				wantLong(t, turn, wide, time, 0)
				wantNumber(t, "the points told for no time", turn, toldBy(by, time), 0)
			}
		}
	})
}

func TestPromise42FewPointsAndNearlyAll(t *testing.T) {
	for _, turn := range allTurns() {
		wantLong(t, turn, 1, turn.Size, 1)
		wantLong(t, turn, 1, turn.Size-1, 0)
		wantLong(t, turn, turn.Size, 1, turn.Size)
		wantLong(t, turn, turn.Size, 2, 0)
		wantLong(t, turn, turn.Size-1, 2, 1)
		wantLong(t, turn, turn.Size-1, 1, turn.Size-2)
		wantLong(t, turn, turn.Size-1, 3, 0)
		if turn.Size > 2 {
			wantLong(t, turn, 2, timeOfOne(turn), 1)
			wantLong(t, turn, 2, turn.Size-timeOfOne(turn), 1)
		}
		wantLong(t, turn, 2, turn.Size, 0)
	}
	wantLong(t, two, 2, 1, 2)
}

func TestPromise42StepsOfOne(t *testing.T) {
	ones, others := stepsOfOne()
	for place, turn := range ones {
		for wide := 1; wide < turn.Size; wide++ {
			for _, of := range []impl.Turn{turn, others[place]} {
				wantLong(t, of, wide, 1, wide-1)
				wantLong(t, of, wide, turn.Size-wide+1, 1)
				wantLong(t, of, wide, turn.Size-wide+2, 0)
			}
		}
	}
}

func TestPromise42KnownNumbers(t *testing.T) {
	for time, want := range []int{0, 0, 2, 1, 0, 1, 0, 0, 0, 0, 0, 0, 0} {
		wantLong(t, fifths, 4, time, want)
	}
	for time, want := range []int{0, 0, 7, 12, 0, 1, 0} {
		wantLong(t, golden, 20, time, want)
	}
}

func TestPromise42BadArguments(t *testing.T) {
	eachBadPair(1, func(turn impl.Turn, wide int) {
		for _, time := range []int{-1, 0, 1, 2, 12, turn.Size, math.MaxInt, math.MinInt} {
			wantLong(t, turn, wide, time, -1)
		}
	})
}

func TestPromise43NarrowerArcsAreMetLater(t *testing.T) {
	eachMany(2, func(turn impl.Turn, wide int) {
		up := impl.ArcUp(turn, wide)
		wantNumber(t, "ArcUp", turn, up, plainFirst(turn, func(point int) bool { return point < wide }))
		if !slices.Contains(plainAbove(turn), up) || !slices.Contains(impl.RecordsAbove(turn), up) {
			t.Fatalf("ArcUp of %v and an arc of %d is %d, which is no record", turn, wide, up)
		}
		if wide < turn.Size && impl.ArcUp(turn, wide+1) > up {
			t.Fatalf("%v meets an arc of %d at %d, and one with a point more later", turn, wide, up)
		}
		wantSteps(t, turn, wide, 0, up)
	})
}

func TestPromise43TheFirstPointBehindAnArcIsNotOfIt(t *testing.T) {
	for _, turn := range allTurns() {
		for _, record := range plainAbove(turn) {
			point := walk(turn)[record]
			wantNumber(t, "ArcUp with the record", turn, impl.ArcUp(turn, point+1), record)
			if point > 1 && impl.ArcUp(turn, point) <= record {
				t.Fatalf("%v is at %d at time %d, and in an arc of as many no later", turn, point, record)
			}
		}
	}
}

func TestPromise43FewPointsAndNearlyAll(t *testing.T) {
	for _, turn := range allTurns() {
		wantNumber(t, "ArcUp of no point", turn, impl.ArcUp(turn, 0), -1)
		wantNumber(t, "ArcUp of one point", turn, impl.ArcUp(turn, 1), -1)
		wantNumber(t, "ArcUp of two points", turn, impl.ArcUp(turn, 2), timeOfOne(turn))
		wantNumber(t, "ArcUp of all points", turn, impl.ArcUp(turn, turn.Size), 1)
		wantNumber(t, "ArcUp of one point more", turn, impl.ArcUp(turn, turn.Size+1), -1)
		if turn.Size > 2 {
			want := 1
			if turn.Step == turn.Size-1 {
				want = 2
			}
			wantNumber(t, "ArcUp of all points but one", turn, impl.ArcUp(turn, turn.Size-1), want)
		}
	}
}

func TestPromise43KnownTimes(t *testing.T) {
	for place, want := range []int{7, 2, 2, 2, 2, 2, 1, 1, 1, 1, 1} {
		wantNumber(t, "ArcUp", fifths, impl.ArcUp(fifths, place+2), want)
	}
	for wide, want := range map[int]int{2: 34, 3: 13, 5: 13, 6: 5, 13: 5, 14: 2, 34: 2, 35: 1, 55: 1} {
		wantNumber(t, "ArcUp", golden, impl.ArcUp(golden, wide), want)
	}
	ones, others := stepsOfOne()
	for place, turn := range ones {
		for wide := 2; wide <= turn.Size; wide++ {
			wantNumber(t, "ArcUp", turn, impl.ArcUp(turn, wide), 1)
			wantNumber(t, "ArcUp", others[place], impl.ArcUp(others[place], wide), turn.Size-wide+1)
		}
	}
}

func TestPromise43BadArguments(t *testing.T) {
	eachBadPair(2, func(turn impl.Turn, wide int) {
		wantNumber(t, "ArcUp of none", turn, impl.ArcUp(turn, wide), -1)
	})
}

func TestPromise44DownIsUpTheOtherWay(t *testing.T) {
	eachMany(2, func(turn impl.Turn, wide int) {
		down := impl.ArcDown(turn, wide)
		wantNumber(t, "ArcDown", turn, down, plainFirst(turn, func(point int) bool { return turn.Size-point < wide }))
		wantNumber(t, "ArcUp the other way", turn, impl.ArcUp(impl.BackTurn(turn), wide), down)
		wantSteps(t, turn, wide, wide-1, down)
	})
}

func TestPromise44FewPointsAndNearlyAll(t *testing.T) {
	for _, turn := range allTurns() {
		wantNumber(t, "ArcDown of no point", turn, impl.ArcDown(turn, 0), -1)
		wantNumber(t, "ArcDown of one point", turn, impl.ArcDown(turn, 1), -1)
		wantNumber(t, "ArcDown of two points", turn, impl.ArcDown(turn, 2), turn.Size-timeOfOne(turn))
		wantNumber(t, "ArcDown of all points", turn, impl.ArcDown(turn, turn.Size), 1)
		wantNumber(t, "ArcDown of one point more", turn, impl.ArcDown(turn, turn.Size+1), -1)
		if turn.Size > 2 {
			want := 1
			if turn.Step == 1 {
				want = 2
			}
			wantNumber(t, "ArcDown of all points but one", turn, impl.ArcDown(turn, turn.Size-1), want)
		}
	}
}

func TestPromise44KnownTimes(t *testing.T) {
	for place, want := range []int{5, 5, 3, 3, 1, 1, 1, 1, 1, 1, 1} {
		wantNumber(t, "ArcDown", fifths, impl.ArcDown(fifths, place+2), want)
	}
	for wide, want := range map[int]int{2: 21, 3: 21, 4: 8, 8: 8, 9: 3, 21: 3, 22: 1, 55: 1} {
		wantNumber(t, "ArcDown", golden, impl.ArcDown(golden, wide), want)
	}
	ones, others := stepsOfOne()
	for place, turn := range ones {
		for wide := 2; wide <= turn.Size; wide++ {
			wantNumber(t, "ArcDown", turn, impl.ArcDown(turn, wide), turn.Size-wide+1)
			wantNumber(t, "ArcDown", others[place], impl.ArcDown(others[place], wide), 1)
		}
	}
}

func TestPromise44BadArguments(t *testing.T) {
	eachBadPair(2, func(turn impl.Turn, wide int) {
		wantNumber(t, "ArcDown of none", turn, impl.ArcDown(turn, wide), -1)
	})
}

func TestPromise45AllIsToldByTwoTimes(t *testing.T) {
	eachMany(2, func(turn impl.Turn, wide int) {
		up := plainFirst(turn, func(point int) bool { return point < wide })
		down := plainFirst(turn, func(point int) bool { return turn.Size-point < wide })
		above, below := walk(turn)[up], turn.Size-walk(turn)[down]
		by := impl.ReturnsBy(turn, wide)
		wantList(t, "ReturnsBy", turn, by, []int{up, wide - above, down, wide - below, up + down, above + below - wide})
		if by[1] < 0 || by[3] < 0 || by[5] < 0 {
			t.Fatalf("ReturnsBy, of %v and an arc of %d, is %v", turn, wide, by)
		}
		wantNumber(t, "the points together", turn, by[1]+by[3]+by[5], wide)
		wantNumber(t, "the times together", turn, by[0]*by[1]+by[2]*by[3]+by[4]*by[5], turn.Size)
	})
}

func TestPromise45ReturnsAndGapsAreToldAlike(t *testing.T) {
	eachMany(1, func(turn impl.Turn, wide int) {
		opposite := impl.Turn{Size: turn.Size, Step: timeOfOne(turn)}
		kinds := impl.KindsOf(impl.OppositeOf(turn), wide)
		wantList(t, "KindsOf the opposite turn", turn, kinds, impl.KindsOf(opposite, wide))
		wantList(t, "ReturnTimes", turn, impl.ReturnTimes(turn, wide), kinds)
		for place, time := range impl.ReturnsBy(turn, wide) {
			if place%2 == 0 && toldBy(impl.ReturnsBy(turn, wide), time) > 0 && !slices.Contains(kinds, time) {
				t.Fatalf("ReturnsBy, of %v and an arc of %d, tells points for %d, which is no length of a gap", turn, wide, time)
			}
		}
	})
}

func TestPromise45EqualTimesAreToldTwice(t *testing.T) {
	for _, turn := range allTurns() {
		want := []int{1, turn.Size - turn.Step, 1, turn.Step, 2, 0}
		wantList(t, "ReturnsBy of all points", turn, impl.ReturnsBy(turn, turn.Size), want)
		one := timeOfOne(turn)
		want = []int{one, 1, turn.Size - one, 1, turn.Size, 0}
		wantList(t, "ReturnsBy of two points", turn, impl.ReturnsBy(turn, 2), want)
	}
	wantList(t, "ReturnsBy", fifths, impl.ReturnsBy(fifths, 8), []int{1, 1, 1, 3, 2, 4})
	wantList(t, "ReturnsBy", fifths, impl.ReturnsBy(fifths, 11), []int{1, 4, 1, 6, 2, 1})
	wantList(t, "ReturnsBy", two, impl.ReturnsBy(two, 2), []int{1, 1, 1, 1, 2, 0})
}

func TestPromise45StepsOfOne(t *testing.T) {
	ones, others := stepsOfOne()
	for place, turn := range ones {
		for wide := 2; wide <= turn.Size; wide++ {
			far := turn.Size - wide + 1
			wantList(t, "ReturnsBy", turn, impl.ReturnsBy(turn, wide), []int{1, wide - 1, far, 1, far + 1, 0})
			wantList(t, "ReturnsBy", others[place], impl.ReturnsBy(others[place], wide), []int{far, 1, 1, wide - 1, far + 1, 0})
		}
	}
}

func TestPromise45KnownLists(t *testing.T) {
	wantList(t, "ReturnsBy", fifths, impl.ReturnsBy(fifths, 3), []int{2, 1, 5, 2, 7, 0})
	wantList(t, "ReturnsBy", fifths, impl.ReturnsBy(fifths, 4), []int{2, 2, 3, 1, 5, 1})
	wantList(t, "ReturnsBy", fifths, impl.ReturnsBy(fifths, 6), []int{2, 4, 1, 1, 3, 1})
	wantList(t, "ReturnsBy", golden, impl.ReturnsBy(golden, 7), []int{5, 2, 8, 4, 13, 1})
	wantList(t, "ReturnsBy", golden, impl.ReturnsBy(golden, 8), []int{5, 3, 8, 5, 13, 0})
}

func TestPromise45BadArguments(t *testing.T) {
	eachBadPair(2, func(turn impl.Turn, wide int) {
		wantList(t, "ReturnsBy of none", turn, impl.ReturnsBy(turn, wide), nil)
	})
}

func TestPromise45ListsAreNewEachTime(t *testing.T) {
	wantNewLists(t, "ReturnsBy", func(turn impl.Turn) []int { return impl.ReturnsBy(turn, turn.Size/2+1) })
}

func TestPromise46ReturnsToANarrowerArcAreMadeOfReturns(t *testing.T) {
	eachArcPoint(func(turn impl.Turn, wide int, point int) {
		left := wide - 1
		if point == left {
			return
		}
		steps, at := impl.ReturnOf(turn, wide, point), impl.LandsAt(turn, wide, point)
		for at == left {
			steps, at = steps+impl.ReturnOf(turn, wide, left), impl.LandsAt(turn, wide, left)
		}
		wantReturn(t, turn, wide-1, point, steps, at)
	})
}

func TestPromise46OnePointLandsAtThePointLeftOut(t *testing.T) {
	eachMany(2, func(turn impl.Turn, wide int) {
		longer := 0
		for point := range wide - 1 {
			if impl.LandsAt(turn, wide, point) != wide-1 {
				wantReturn(t, turn, wide-1, point, impl.ReturnOf(turn, wide, point), impl.LandsAt(turn, wide, point))
				continue
			}
			longer++
			wantReturn(t, turn, wide-1, point, impl.ReturnOf(turn, wide, point)+impl.ReturnOf(turn, wide, wide-1), impl.LandsAt(turn, wide, wide-1))
		}
		wantNumber(t, "the points that return later", turn, longer, 1)
	})
}

func TestPromise46ThePointLeftOutIsOfTheArcNoMore(t *testing.T) {
	eachMany(1, func(turn impl.Turn, wide int) {
		wantReturn(t, turn, wide-1, wide-1, -1, -1)
	})
}

func TestPromise46KnownReturns(t *testing.T) {
	// From 0 one lands at 2, which is left out, and goes on for 5 steps more.
	wantReturn(t, fifths, 3, 0, 2, 2)
	wantReturn(t, fifths, 3, 2, 5, 1)
	wantReturn(t, fifths, 2, 0, 7, 1)
	wantReturn(t, fifths, 3, 1, 5, 0)
	wantReturn(t, fifths, 2, 1, 5, 0)
	// From 0 one lands at 1, and from there at 0: together this is once round.
	wantReturn(t, golden, 2, 0, 34, 1)
	wantReturn(t, golden, 2, 1, 21, 0)
	wantReturn(t, golden, 1, 0, 55, 0)
}
