package tests

import (
	"math"
	"slices"
	"testing"

	"loop.example/roundturns/impl"
)

// plainRecords tells the times from 1 on at which what is measured of a walked point is less than of all points before but 0.
func plainRecords(turn impl.Turn, measure func(point int) int) []int {
	points := walk(turn)
	var times []int
	for time := 1; time < turn.Size; time++ {
		nearer := func(point int) bool { return measure(point) <= measure(points[time]) }
		if !slices.ContainsFunc(points[1:time], nearer) {
			times = append(times, time)
		}
	}
	return times
}

// plainAbove tells the records above, by how far points are above 0.
func plainAbove(turn impl.Turn) []int {
	return plainRecords(turn, func(point int) int { return point })
}

// plainBelow tells the records below, by how far points are below 0.
func plainBelow(turn impl.Turn) []int {
	return plainRecords(turn, func(point int) int { return turn.Size - point })
}

// plainQuotients takes the lesser number away from the greater one, and counts how often in a row it is the same one.
func plainQuotients(turn impl.Turn) []int {
	var quotients []int
	for left, taken := turn.Size, turn.Step; taken > 0; left, taken = taken, left {
		count := 0
		for left >= taken {
			left -= taken
			count++
		}
		quotients = append(quotients, count)
	}
	return quotients
}

// plainSize is how many points the turn of quotients has, and plainSize of all but the first one is its step.
func plainSize(quotients []int) int {
	switch len(quotients) {
	case 0:
		return 1
	case 1:
		return quotients[0]
	}
	return quotients[0]*plainSize(quotients[1:]) + plainSize(quotients[2:])
}

// plainTurn is the turn of quotients, with as many points as there come to be.
func plainTurn(quotients []int) impl.Turn {
	return impl.Turn{Size: plainSize(quotients), Step: plainSize(quotients[1:])}
}

// column is one number of each row, each once.
func column(rows [][]int, place int) []int {
	var numbers []int
	for _, row := range rows {
		if !slices.Contains(numbers, row[place]) {
			numbers = append(numbers, row[place])
		}
	}
	return numbers
}

// eachQuotients calls with each list of as many quotients as there are, or fewer, with numbers from 1 up to a bound.
func eachQuotients(most int, bound int, call func(list []int)) {
	var grow func(list []int)
	grow = func(list []int) {
		call(slices.Clone(list))
		for number := 1; number <= bound && len(list) < most; number++ {
			grow(append(list, number))
		}
	}
	grow(nil)
}

// stepsOfOne are the turns with steps of one, and those with steps one less than the size.
func stepsOfOne() ([]impl.Turn, []impl.Turn) {
	var ones, others []impl.Turn
	for size := 2; size <= impl.MaxSize; size++ {
		ones = append(ones, impl.Turn{Size: size, Step: 1})
		others = append(others, impl.Turn{Size: size, Step: size - 1})
	}
	return ones, others
}

// upTo are the numbers from 1 up to a bound.
func upTo(bound int) []int {
	var numbers []int
	for number := 1; number <= bound; number++ {
		numbers = append(numbers, number)
	}
	return numbers
}

func wantRows(t *testing.T, what string, of impl.Turn, got [][]int, want [][]int) {
	t.Helper()
	if !slices.EqualFunc(got, want, slices.Equal[[]int]) {
		t.Fatalf("%s of %v is %v, want %v", what, of, got, want)
	}
}

func wantTold(t *testing.T, list []int, want impl.Turn, wantOk bool) {
	t.Helper()
	if got, ok := impl.FromQuotients(list); ok != wantOk || got != want {
		t.Fatalf("FromQuotients of %v is %v, %v, want %v, %v", list, got, ok, want, wantOk)
	}
}

// wantNewLists checks that a list written over, with the room behind it, is not the list of the next call.
func wantNewLists(t *testing.T, what string, call func(turn impl.Turn) []int) {
	t.Helper()
	for _, turn := range allTurns() {
		first, second := call(turn), call(turn)
		want := slices.Clone(second)
		spoil(first)
		wantList(t, what, turn, second, want)
		wantList(t, what+" again", turn, call(turn), want)
	}
}

func TestPromise16RecordsAreFoundByTakingAway(t *testing.T) {
	for _, turn := range allTurns() {
		records := impl.RecordsAbove(turn)
		wantList(t, "RecordsAbove", turn, records, plainAbove(turn))
		wantList(t, "the first numbers of NearRule", turn, column(impl.NearRule(turn), 0), records)
		wantNumber(t, "the last record above", turn, records[len(records)-1], impl.TimeOf(turn, 1))
	}
}

func TestPromise16KnownRecords(t *testing.T) {
	wantList(t, "RecordsAbove", fifths, impl.RecordsAbove(fifths), []int{1, 2, 7})
	wantList(t, "RecordsAbove", golden, impl.RecordsAbove(golden), []int{1, 2, 5, 13, 34})
	ones, others := stepsOfOne()
	for _, turn := range ones {
		wantList(t, "RecordsAbove", turn, impl.RecordsAbove(turn), []int{1})
	}
	for _, turn := range others {
		wantList(t, "RecordsAbove", turn, impl.RecordsAbove(turn), upTo(turn.Size-1))
	}
}

func TestPromise16BadTurns(t *testing.T) {
	for _, turn := range badTurns() {
		wantList(t, "RecordsAbove", turn, impl.RecordsAbove(turn), nil)
	}
}

func TestPromise16RecordsAreNewEachTime(t *testing.T) {
	wantNewLists(t, "RecordsAbove", impl.RecordsAbove)
}

func TestPromise17BelowIsAboveTheOtherWay(t *testing.T) {
	for _, turn := range allTurns() {
		records := impl.RecordsBelow(turn)
		wantList(t, "RecordsBelow", turn, records, plainBelow(turn))
		wantList(t, "RecordsAbove the other way", turn, impl.RecordsAbove(impl.BackTurn(turn)), records)
		wantList(t, "the third numbers of NearRule", turn, column(impl.NearRule(turn), 2), records)
		wantNumber(t, "the last record below", turn, records[len(records)-1], impl.TimeOf(turn, turn.Size-1))
	}
}

func TestPromise17KnownRecords(t *testing.T) {
	wantList(t, "RecordsBelow", fifths, impl.RecordsBelow(fifths), []int{1, 3, 5})
	wantList(t, "RecordsBelow", golden, impl.RecordsBelow(golden), []int{1, 3, 8, 21})
	ones, others := stepsOfOne()
	for _, turn := range ones {
		wantList(t, "RecordsBelow", turn, impl.RecordsBelow(turn), upTo(turn.Size-1))
	}
	for _, turn := range others {
		wantList(t, "RecordsBelow", turn, impl.RecordsBelow(turn), []int{1})
	}
}

func TestPromise17BadTurns(t *testing.T) {
	for _, turn := range badTurns() {
		wantList(t, "RecordsBelow", turn, impl.RecordsBelow(turn), nil)
	}
}

func TestPromise17RecordsAreNewEachTime(t *testing.T) {
	wantNewLists(t, "RecordsBelow", impl.RecordsBelow)
}

func TestPromise18TheSizeIsASumOfProducts(t *testing.T) {
	for _, turn := range allTurns() {
		rows, points := impl.NearRule(turn), walk(turn)
		for _, row := range rows {
			if len(row) != 4 {
				t.Fatalf("a row of NearRule of %v is %v", turn, row)
			}
			wantNumber(t, "the sum of products", turn, row[0]*row[3]+row[2]*row[1], turn.Size)
			wantNumber(t, "the point at the first number", turn, points[row[0]], row[1])
			wantNumber(t, "the point at the third number", turn, points[row[2]], turn.Size-row[3])
		}
		last := rows[len(rows)-1]
		wantNumber(t, "the last distance above", turn, last[1], 1)
		wantNumber(t, "the last distance below", turn, last[3], 1)
		wantNumber(t, "both last times", turn, last[0]+last[2], turn.Size)
	}
}

func TestPromise18EachRowMakesTheNextOne(t *testing.T) {
	for _, turn := range allTurns() {
		rows := impl.NearRule(turn)
		wantList(t, "the first row of NearRule", turn, rows[0], []int{1, turn.Step, 1, turn.Size - turn.Step})
		for place, row := range rows[1:] {
			before := rows[place]
			both := before[0] + before[2]
			want := []int{before[0], before[1], both, before[3] - before[1]}
			if before[1] > before[3] {
				want = []int{both, before[1] - before[3], before[2], before[3]}
			}
			wantList(t, "the next row of NearRule", turn, row, want)
		}
		for _, row := range rows[:len(rows)-1] {
			if row[1] == row[3] {
				t.Fatalf("NearRule of %v goes on behind %v", turn, row)
			}
		}
	}
}

func TestPromise18KnownRows(t *testing.T) {
	wantRows(t, "NearRule", fifths, impl.NearRule(fifths), [][]int{{1, 7, 1, 5}, {2, 2, 1, 5}, {2, 2, 3, 3}, {2, 2, 5, 1}, {7, 1, 5, 1}})
	wantRows(t, "NearRule", two, impl.NearRule(two), [][]int{{1, 1, 1, 1}})
	ones, others := stepsOfOne()
	for _, turn := range ones {
		var want [][]int
		for time := 1; time < turn.Size; time++ {
			want = append(want, []int{1, 1, time, turn.Size - time})
		}
		wantRows(t, "NearRule", turn, impl.NearRule(turn), want)
	}
	for _, turn := range others {
		var want [][]int
		for time := 1; time < turn.Size; time++ {
			want = append(want, []int{time, turn.Size - time, 1, 1})
		}
		wantRows(t, "NearRule", turn, impl.NearRule(turn), want)
	}
}

func TestPromise18BadTurns(t *testing.T) {
	for _, turn := range badTurns() {
		wantRows(t, "NearRule", turn, impl.NearRule(turn), nil)
	}
}

func TestPromise18RowsAreNewEachTime(t *testing.T) {
	for _, turn := range allTurns() {
		want := impl.NearRule(turn)
		kept := make([][]int, len(want))
		for place, row := range want {
			kept[place] = slices.Clone(row)
		}
		rows := impl.NearRule(turn)
		for place, row := range rows {
			wantList(t, "a row of NearRule, the others written over,", turn, row, kept[place])
			spoil(row)
		}
		clear(rows[:cap(rows)])
		wantRows(t, "NearRule", turn, want, kept)
		wantRows(t, "NearRule again", turn, impl.NearRule(turn), kept)
	}
}

func TestPromise19QuotientsTellTheTurn(t *testing.T) {
	for _, turn := range allTurns() {
		quotients := impl.QuotientsOf(turn)
		wantList(t, "QuotientsOf", turn, quotients, plainQuotients(turn))
		wantTold(t, quotients, turn, true)
		if len(quotients) > impl.MaxQuotients || quotients[len(quotients)-1] < 2 || slices.Min(quotients) < 1 {
			t.Fatalf("QuotientsOf of %v is %v", turn, quotients)
		}
		wantNumber(t, "all quotients together", turn, total(quotients), len(impl.NearRule(turn))+1)
	}
}

func TestPromise19KnownQuotients(t *testing.T) {
	wantList(t, "QuotientsOf", fifths, impl.QuotientsOf(fifths), []int{1, 1, 2, 2})
	wantList(t, "QuotientsOf", golden, impl.QuotientsOf(golden), []int{1, 1, 1, 1, 1, 1, 1, 2})
	ones, others := stepsOfOne()
	for _, turn := range ones {
		wantList(t, "QuotientsOf", turn, impl.QuotientsOf(turn), []int{turn.Size})
	}
	for _, turn := range others[1:] {
		wantList(t, "QuotientsOf", turn, impl.QuotientsOf(turn), []int{1, turn.Size - 1})
	}
}

func TestPromise19TheGreatestNumberOfQuotients(t *testing.T) {
	if impl.MaxQuotients != 8 {
		t.Fatalf("the greatest number of quotients is %d", impl.MaxQuotients)
	}
	most := 0
	for _, turn := range allTurns() {
		most = max(most, len(impl.QuotientsOf(turn)))
	}
	wantNumber(t, "the most quotients", golden, most, impl.MaxQuotients)
}

func TestPromise19BadTurns(t *testing.T) {
	for _, turn := range badTurns() {
		wantList(t, "QuotientsOf", turn, impl.QuotientsOf(turn), nil)
	}
}

func TestPromise19QuotientsAreNewEachTime(t *testing.T) {
	wantNewLists(t, "QuotientsOf", impl.QuotientsOf)
}

func TestPromise20TurnsAreToldByQuotients(t *testing.T) {
	told := 0
	eachQuotients(impl.MaxQuotients+1, 3, func(list []int) {
		if len(list) == 0 || list[len(list)-1] < 2 || len(list) > impl.MaxQuotients || plainSize(list) > impl.MaxSize {
			wantTold(t, list, impl.Turn{}, false)
			return
		}
		told++
		turn, ok := impl.FromQuotients(list)
		if !ok || !impl.TurnOk(turn) {
			t.Fatalf("FromQuotients of %v is %v, %v", list, turn, ok)
		}
		wantTurn(t, "FromQuotients", turn, turn, plainTurn(list))
		wantList(t, "QuotientsOf", turn, impl.QuotientsOf(turn), list)
	})
	if told == 0 {
		t.Fatal("no quotients told a turn")
	}
}

func TestPromise20FewQuotients(t *testing.T) {
	eachQuotients(3, impl.MaxSize+1, func(list []int) {
		if len(list) == 0 || list[len(list)-1] < 2 || plainSize(list) > impl.MaxSize {
			wantTold(t, list, impl.Turn{}, false)
			return
		}
		wantTold(t, list, plainTurn(list), true)
	})
}

func TestPromise20KnownTurns(t *testing.T) {
	wantTold(t, []int{1, 1, 2, 2}, fifths, true)
	wantTold(t, []int{1, 1, 1, 1, 1, 1, 1, 2}, golden, true)
	wantTold(t, []int{2}, impl.Turn{Size: 2, Step: 1}, true)
	wantTold(t, []int{1, 2}, impl.Turn{Size: 3, Step: 2}, true)
	wantTold(t, []int{60}, impl.Turn{Size: 60, Step: 1}, true)
	wantTold(t, []int{1, 59}, impl.Turn{Size: 60, Step: 59}, true)
	wantTold(t, []int{8, 1, 1, 3}, impl.Turn{Size: 60, Step: 7}, true)
}

func TestPromise20TooManyPoints(t *testing.T) {
	for _, list := range [][]int{
		{61},
		{1, 60},
		{30, 2},
		{2, 30},
		{1, 1, 1, 1, 1, 1, 2, 2},
		{2, 1, 1, 1, 1, 1, 1, 2},
		{1, 1, 1, 1, 1, 1, 1, 3},
		{9, 9, 9, 9, 9, 9, 9, 9},
		{math.MaxInt},
		{1, math.MaxInt},
		{math.MaxInt, 2},
		{2, math.MaxInt, 2},
		{math.MaxInt, math.MaxInt},
		// Times 3 this number wraps around to 2.
		{math.MaxInt/3*2 + 2, 3},
		{5, math.MaxInt/3*2 + 2, 3},
		{math.MaxInt/2 + 1, 2},
		{2, math.MaxInt/2 + 1, 4, 2},
	} {
		wantTold(t, list, impl.Turn{}, false)
	}
}

func TestPromise20BadLists(t *testing.T) {
	for _, list := range [][]int{
		nil,
		{},
		{1},
		{0},
		{-1},
		{-2},
		{2, 1},
		{1, 1},
		{1, 1, 2, 1},
		{1, 1, 2, 1, 1},
		{0, 2},
		{2, 0},
		{2, 0, 2},
		{0, 1, 1, 2, 2},
		{3, -1, 4},
		{-1, 2, 2},
		{2, 2, -2},
		{5, -4, 2, 2},
		{1, math.MinInt},
		{math.MinInt, 2},
		{2, math.MinInt, 3},
		{1, 1, 1, 1, 1, 1, 1, 1, 1},
		{1, 1, 1, 1, 1, 1, 1, 1, 2},
		{1, 0, 1, 0, 1, 0, 1, 0, 2},
		make([]int, impl.MaxQuotients),
		make([]int, 1000),
		slices.Repeat([]int{2}, 1000),
	} {
		wantTold(t, list, impl.Turn{}, false)
	}
}

func TestPromise20TheListStays(t *testing.T) {
	for _, turn := range allTurns() {
		list := append(impl.QuotientsOf(turn), 5, 6)
		kept := slices.Clone(list)
		wantTold(t, list[:len(list)-2], turn, true)
		wantList(t, "the quotients, and what is behind them,", turn, list, kept)
	}
}

func TestPromise21TimesByQuotientsAreNearTimes(t *testing.T) {
	for _, turn := range allTurns() {
		times, quotients := impl.NearTimes(turn), plainQuotients(turn)
		var want []int
		for many := 0; many <= len(quotients); many++ {
			want = append(want, plainSize(quotients[:many]))
		}
		wantList(t, "NearTimes", turn, times, want)
		last := len(times) - 1
		wantNumber(t, "the last near time", turn, times[last], turn.Size)
		records := slices.Concat(impl.RecordsAbove(turn), impl.RecordsBelow(turn))
		for _, time := range times[:last] {
			if !slices.Contains(records, time) {
				t.Fatalf("the near time %d of %v is no record", time, turn)
			}
		}
		ofOne := impl.TimeOf(turn, 1)
		if times[last-1] != ofOne && times[last-1] != turn.Size-ofOne {
			t.Fatalf("the near time before the last one of %v is %d", turn, times[last-1])
		}
	}
}

func TestPromise21KnownTimes(t *testing.T) {
	wantList(t, "NearTimes", fifths, impl.NearTimes(fifths), []int{1, 1, 2, 5, 12})
	wantList(t, "NearTimes", golden, impl.NearTimes(golden), []int{1, 1, 2, 3, 5, 8, 13, 21, 55})
	sevens := impl.Turn{Size: 60, Step: 7}
	wantList(t, "NearTimes", sevens, impl.NearTimes(sevens), []int{1, 8, 9, 17, 60})
	ones, others := stepsOfOne()
	for _, turn := range ones {
		wantList(t, "NearTimes", turn, impl.NearTimes(turn), []int{1, turn.Size})
	}
	for _, turn := range others[1:] {
		wantList(t, "NearTimes", turn, impl.NearTimes(turn), []int{1, 1, turn.Size})
	}
}

func TestPromise21BadTurns(t *testing.T) {
	for _, turn := range badTurns() {
		wantList(t, "NearTimes", turn, impl.NearTimes(turn), nil)
	}
}

func TestPromise21TimesAreNewEachTime(t *testing.T) {
	wantNewLists(t, "NearTimes", impl.NearTimes)
}

func TestPromise22BetweenNearTimesNoneIsNearer(t *testing.T) {
	for _, turn := range allTurns() {
		points, times := walk(turn), impl.NearTimes(turn)
		near := func(time int) int { return min(points[time], turn.Size-points[time]) }
		for place, time := range times[:len(times)-1] {
			for other := 1; other < times[place+1]; other++ {
				if near(other) < near(time) {
					t.Fatalf("before the near time %d of %v the time %d is nearer than %d", times[place+1], turn, other, time)
				}
			}
		}
	}
}

func TestPromise22ANewTimeIsNearer(t *testing.T) {
	for _, turn := range allTurns() {
		points, times := walk(turn), impl.NearTimes(turn)
		near := func(time int) int { return min(points[time], turn.Size-points[time]) }
		for place, time := range times[1 : len(times)-1] {
			if before := times[place]; time != before && near(time) >= near(before) {
				t.Fatalf("the near time %d of %v is no nearer than %d", time, turn, before)
			}
		}
	}
}
