package tests

import (
	"math"
	"testing"

	"loop.example/roundturns/impl"
)

// julian is a calendar of which each fourth year is long.
var julian = impl.Turn{Size: 4, Step: 1}

// metonic is a calendar of months: of 19 years of 12 months, 7 have one more.
var metonic = impl.Turn{Size: 19, Step: 7}

// tabular is a calendar of moons: of 30 years of 354 days, 11 have one more.
var tabular = impl.Turn{Size: 30, Step: 11}

// plainYears tells of each year whether it is long, by going round the circle: it is if a step goes over 0.
func plainYears(turn impl.Turn) []bool {
	long := make([]bool, impl.MaxYears)
	at := 0
	for year := range long {
		at += turn.Step
		if at >= turn.Size {
			at -= turn.Size
			long[year] = true
		}
	}
	return long
}

// plainBefore tells for each year, and for the one behind all, how many long ones were counted before it.
func plainBefore(turn impl.Turn) []int {
	before := []int{0}
	for year, long := range plainYears(turn) {
		count := before[year]
		if long {
			count++
		}
		before = append(before, count)
	}
	return before
}

// plainStarts tells for each year, and for the one behind all, how many days were counted before it, year by year.
func plainStarts(turn impl.Turn, days int) []int {
	starts := []int{0}
	for year, long := range plainYears(turn) {
		next := starts[year] + days
		if long {
			next++
		}
		starts = append(starts, next)
	}
	return starts
}

// plainLeap tells how many days a year has more than a short one.
func plainLeap(turn impl.Turn, year int) int {
	if plainYears(turn)[year] {
		return 1
	}
	return 0
}

// countOn goes on day by day, from the first day of the year 0 to the last one of all years.
func countOn(turn impl.Turn, days int, call func(year int, day int, number int)) {
	number := 0
	for year, long := range plainYears(turn) {
		in := days
		if long {
			in++
		}
		for day := range in {
			call(year, day, number)
			number++
		}
	}
}

// eachYear calls for each turn with each year that there is in a calendar.
func eachYear(call func(turn impl.Turn, year int)) {
	for _, turn := range allTurns() {
		for year := range impl.MaxYears {
			call(turn, year)
		}
	}
}

// someDays are numbers of days that short years may have, with the least and the greatest one.
func someDays() []int {
	return []int{1, 2, 7, 12, 29, 365, impl.MaxDays - 1, impl.MaxDays}
}

// badDays are numbers of days that no short year has.
func badDays() []int {
	return []int{0, -1, -365, -impl.MaxDays, impl.MaxDays + 1, 2 * impl.MaxDays, math.MaxInt, math.MinInt}
}

// eachCalendar calls for each turn with some numbers of days, and for few turns with each one.
func eachCalendar(call func(turn impl.Turn, days int)) {
	for _, turn := range allTurns() {
		for _, days := range someDays() {
			call(turn, days)
		}
	}
	for _, turn := range append(utmostTurns(), fifths, metonic, golden) {
		for days := 1; days <= impl.MaxDays; days++ {
			call(turn, days)
		}
	}
}

// eachCountedOn calls for each day of each turn with few days a year, and of some turns with many of them.
func eachCountedOn(call func(turn impl.Turn, days int, year int, day int, number int)) {
	count := func(turn impl.Turn, days int) {
		countOn(turn, days, func(year int, day int, number int) { call(turn, days, year, day, number) })
	}
	for _, turn := range allTurns() {
		for _, days := range []int{1, 2, 12} {
			count(turn, days)
		}
	}
	for _, turn := range append(utmostTurns(), fifths, golden, sevens, julian, tabular) {
		for _, days := range []int{30, 354, 365, impl.MaxDays} {
			count(turn, days)
		}
	}
}

// eachEdge calls for each turn and some numbers of days with the first and the last day of each year.
func eachEdge(call func(turn impl.Turn, days int, year int, day int, number int)) {
	for _, turn := range allTurns() {
		for _, days := range someDays() {
			starts := plainStarts(turn, days)
			for year, start := range starts[:impl.MaxYears] {
				call(turn, days, year, 0, start)
				last := starts[year+1] - 1
				call(turn, days, year, last-start, last)
			}
		}
	}
}

func wantLongYear(t *testing.T, turn impl.Turn, year int, want bool) {
	t.Helper()
	if got := impl.LongYear(turn, year); got != want {
		t.Fatalf("LongYear of %v, the year %d, is %v, want %v", turn, year, got, want)
	}
}

func wantLongBefore(t *testing.T, turn impl.Turn, year int, want int) {
	t.Helper()
	if got := impl.LongBefore(turn, year); got != want {
		t.Fatalf("LongBefore of %v, the year %d, is %d, want %d", turn, year, got, want)
	}
}

func wantDaysBefore(t *testing.T, turn impl.Turn, days int, year int, want int) {
	t.Helper()
	if got := impl.DaysBefore(turn, days, year); got != want {
		t.Fatalf("DaysBefore of %v, %d days, the year %d, is %d, want %d", turn, days, year, got, want)
	}
}

func wantDayNumber(t *testing.T, turn impl.Turn, days int, year int, day int, want int) {
	t.Helper()
	if got := impl.DayNumber(turn, days, year, day); got != want {
		t.Fatalf("DayNumber of %v, %d days, the year %d and the day %d, is %d, want %d", turn, days, year, day, got, want)
	}
}

func wantDate(t *testing.T, turn impl.Turn, days int, number int, wantYear int, wantDay int) {
	t.Helper()
	year, day, ok := impl.DateOf(turn, days, number)
	if year != wantYear || day != wantDay || !ok {
		t.Fatalf("DateOf of %v, %d days, the number %d, is %d, %d, %v, want %d, %d, true", turn, days, number, year, day, ok, wantYear, wantDay)
	}
}

func wantNoDate(t *testing.T, turn impl.Turn, days int, number int) {
	t.Helper()
	year, day, ok := impl.DateOf(turn, days, number)
	if year != -1 || day != -1 || ok {
		t.Fatalf("DateOf of %v, %d days, the number %d, is %d, %d, %v, want -1, -1, false", turn, days, number, year, day, ok)
	}
}

func wantDrift(t *testing.T, turn impl.Turn, year int, want int) {
	t.Helper()
	if got := impl.DriftOf(turn, year); got != want {
		t.Fatalf("DriftOf of %v, the year %d, is %d, want %d", turn, year, got, want)
	}
}

func TestPromise84YearsAreLongByTheLetters(t *testing.T) {
	for _, turn := range allTurns() {
		letters := impl.CodeOf(turn, 0, turn.Size)
		for year, want := range plainYears(turn) {
			wantLongYear(t, turn, year, want)
			wantLongYear(t, turn, year, letters[year%turn.Size] == '1')
		}
	}
}

func TestPromise84AllComesAgain(t *testing.T) {
	eachYear(func(turn impl.Turn, year int) {
		if year+turn.Size < impl.MaxYears {
			wantLongYear(t, turn, year, impl.LongYear(turn, year+turn.Size))
		}
	})
}

func TestPromise84FirstYearsAndLastOnes(t *testing.T) {
	for _, turn := range allTurns() {
		for first := 0; first+turn.Size < impl.MaxYears; first += turn.Size {
			wantLongYear(t, turn, first, false)
			wantLongYear(t, turn, first+turn.Size-1, true)
			wantLongYear(t, turn, first+turn.Size, false)
		}
	}
}

func TestPromise84StepsOfOne(t *testing.T) {
	ones, others := stepsOfOne()
	for place, turn := range ones {
		for year := range impl.MaxYears {
			wantLongYear(t, turn, year, year%turn.Size == turn.Size-1)
			wantLongYear(t, others[place], year, year%turn.Size != 0)
		}
	}
}

func TestPromise84KnownYears(t *testing.T) {
	for turn, years := range map[impl.Turn][]int{
		two:     {1},
		julian:  {3},
		fifths:  {1, 3, 5, 6, 8, 10, 11},
		metonic: {2, 5, 8, 10, 13, 16, 18},
		tabular: {2, 5, 8, 10, 13, 16, 19, 21, 24, 27, 29},
	} {
		long := make(map[int]bool)
		for _, year := range years {
			long[year] = true
		}
		for year := range impl.MaxYears {
			wantLongYear(t, turn, year, long[year%turn.Size])
		}
	}
	wantLongYear(t, julian, 199, true)
	wantLongYear(t, fifths, 198, true)
	wantLongYear(t, fifths, 199, false)
}

func TestPromise84BadArguments(t *testing.T) {
	for _, turn := range allTurns() {
		for _, year := range outside(impl.MaxYears) {
			wantLongYear(t, turn, year, false)
		}
		// A year that would be long, if it might be.
		for year := -3 * turn.Size; year < 0; year++ {
			wantLongYear(t, turn, year, false)
		}
		for year := impl.MaxYears; year < impl.MaxYears+turn.Size; year++ {
			wantLongYear(t, turn, year, false)
		}
	}
	for _, turn := range badTurns() {
		for year := -2; year <= impl.MaxYears+1; year++ {
			wantLongYear(t, turn, year, false)
		}
		wantLongYear(t, turn, turn.Size-1, false)
		wantLongYear(t, turn, math.MaxInt, false)
		wantLongYear(t, turn, math.MinInt, false)
	}
}

func TestPromise85LongYearsAreCounted(t *testing.T) {
	for _, turn := range allTurns() {
		for year, want := range plainBefore(turn) {
			wantLongBefore(t, turn, year, want)
		}
	}
}

func TestPromise85LongYearsAreToldByADivision(t *testing.T) {
	for _, turn := range allTurns() {
		for year := range impl.MaxYears + 1 {
			wantLongBefore(t, turn, year, year*turn.Step/turn.Size)
		}
	}
}

func TestPromise85EachLongYearIsOneMore(t *testing.T) {
	eachYear(func(turn impl.Turn, year int) {
		more := impl.LongBefore(turn, year+1) - impl.LongBefore(turn, year)
		if more < 0 || more > 1 || impl.LongYear(turn, year) != (more == 1) {
			t.Fatalf("LongBefore of %v goes on by %d over the year %d", turn, more, year)
		}
	})
}

func TestPromise85AsManyYearsDifferByOne(t *testing.T) {
	eachYear(func(turn impl.Turn, years int) {
		later := impl.LongBefore(turn, years+1) - impl.LongBefore(turn, 1)
		if more := later - impl.LongBefore(turn, years); more < 0 || more > 1 {
			t.Fatalf("from the year 1 on %d years of %v have %d long ones more than from 0 on", years, turn, more)
		}
	})
}

func TestPromise85FromAnyYearOn(t *testing.T) {
	for _, turn := range allTurns() {
		before := make([]int, impl.MaxYears+1)
		for year := range before {
			before[year] = impl.LongBefore(turn, year)
		}
		for years := range before {
			least, most := years, 0
			for from := 0; from+years <= impl.MaxYears; from++ {
				long := before[from+years] - before[from]
				least, most = min(least, long), max(most, long)
			}
			if most > least+1 {
				t.Fatalf("%d years of %v have %d to %d long ones", years, turn, least, most)
			}
		}
	}
}

func TestPromise85TheEnds(t *testing.T) {
	for _, turn := range allTurns() {
		wantLongBefore(t, turn, 0, 0)
		wantLongBefore(t, turn, 1, 0)
		wantLongBefore(t, turn, turn.Size-1, turn.Step-1)
		wantLongBefore(t, turn, turn.Size, turn.Step)
		wantLongBefore(t, turn, turn.Size+1, turn.Step)
		wantLongBefore(t, turn, 2*turn.Size, 2*turn.Step)
		wantLongBefore(t, turn, impl.MaxYears-1, (impl.MaxYears-1)*turn.Step/turn.Size)
		wantLongBefore(t, turn, impl.MaxYears, impl.MaxYears*turn.Step/turn.Size)
	}
}

func TestPromise85StepsOfOne(t *testing.T) {
	ones, others := stepsOfOne()
	for place, turn := range ones {
		for year := range impl.MaxYears + 1 {
			rounds := year / turn.Size
			wantLongBefore(t, turn, year, rounds)
			first := 0
			if year%turn.Size > 0 {
				first = 1
			}
			// All years are long but the first one of each round.
			wantLongBefore(t, others[place], year, year-rounds-first)
		}
	}
}

func TestPromise85KnownYears(t *testing.T) {
	for year, want := range []int{0, 0, 1, 1, 2, 2, 3, 4, 4, 5, 5, 6, 7, 7, 8} {
		wantLongBefore(t, fifths, year, want)
	}
	wantLongBefore(t, fifths, 100, 58)
	wantLongBefore(t, fifths, 200, 116)
	wantLongBefore(t, julian, 100, 25)
	wantLongBefore(t, julian, 200, 50)
	wantLongBefore(t, metonic, 100, 36)
	wantLongBefore(t, metonic, 200, 73)
	wantLongBefore(t, golden, 200, 123)
	wantLongBefore(t, impl.Turn{Size: 60, Step: 1}, 200, 3)
	wantLongBefore(t, impl.Turn{Size: 60, Step: 59}, 200, 196)
}

func TestPromise85BadArguments(t *testing.T) {
	for _, turn := range allTurns() {
		for _, year := range outside(impl.MaxYears + 1) {
			wantLongBefore(t, turn, year, -1)
		}
	}
	for _, turn := range badTurns() {
		for _, year := range append(outside(impl.MaxYears+1), 0, 1, 12, impl.MaxYears) {
			wantLongBefore(t, turn, year, -1)
		}
	}
}

func TestPromise86DaysAreCountedYearByYear(t *testing.T) {
	eachCalendar(func(turn impl.Turn, days int) {
		for year, want := range plainStarts(turn, days) {
			wantDaysBefore(t, turn, days, year, want)
		}
	})
}

func TestPromise86YearsHaveTheirDays(t *testing.T) {
	eachYear(func(turn impl.Turn, year int) {
		for _, days := range []int{1, 365, impl.MaxDays} {
			want := days
			if impl.LongYear(turn, year) {
				want++
			}
			wantNumber(t, "the days of a year", turn, impl.DaysBefore(turn, days, year+1)-impl.DaysBefore(turn, days, year), want)
		}
	})
}

func TestPromise86ShortYearsAndTheLongOnes(t *testing.T) {
	eachYear(func(turn impl.Turn, year int) {
		long := impl.LongBefore(turn, year)
		for _, days := range []int{1, 12, impl.MaxDays} {
			wantDaysBefore(t, turn, days, year, year*days+long)
		}
	})
}

func TestPromise86DaysAreToldByADivision(t *testing.T) {
	eachCalendar(func(turn impl.Turn, days int) {
		for year := range impl.MaxYears + 1 {
			wantDaysBefore(t, turn, days, year, year*(days*turn.Size+turn.Step)/turn.Size)
		}
	})
}

func TestPromise86TheEnds(t *testing.T) {
	for _, turn := range allTurns() {
		for _, days := range someDays() {
			wantDaysBefore(t, turn, days, 0, 0)
			wantDaysBefore(t, turn, days, 1, days)
			wantDaysBefore(t, turn, days, turn.Size-1, (turn.Size-1)*days+turn.Step-1)
			wantDaysBefore(t, turn, days, turn.Size, turn.Size*days+turn.Step)
			wantDaysBefore(t, turn, days, turn.Size+1, (turn.Size+1)*days+turn.Step)
			before := plainBefore(turn)
			for _, year := range []int{impl.MaxYears - 1, impl.MaxYears} {
				wantDaysBefore(t, turn, days, year, year*days+before[year])
			}
		}
	}
}

func TestPromise86KnownDays(t *testing.T) {
	for year, want := range []int{0, 10, 21, 31, 42, 52, 63, 74, 84, 95, 105, 116, 127, 137} {
		wantDaysBefore(t, fifths, 10, year, want)
	}
	wantDaysBefore(t, julian, 365, 4, 1461)
	wantDaysBefore(t, julian, 365, 200, 73050)
	wantDaysBefore(t, metonic, 12, 19, 235)
	wantDaysBefore(t, tabular, 354, 30, 10631)
	wantDaysBefore(t, tabular, 354, 200, 70873)
	wantDaysBefore(t, impl.Turn{Size: 33, Step: 8}, 365, 33, 12053)
	wantDaysBefore(t, two, 1, 199, 298)
	wantDaysBefore(t, two, 1, 200, 300)
	wantDaysBefore(t, impl.Turn{Size: 60, Step: 1}, 1, 200, 203)
	wantDaysBefore(t, impl.Turn{Size: 60, Step: 1}, 400, 200, 80003)
	wantDaysBefore(t, impl.Turn{Size: 60, Step: 59}, 400, 199, 79795)
	wantDaysBefore(t, impl.Turn{Size: 60, Step: 59}, 400, 200, 80196)
}

func TestPromise86BadArguments(t *testing.T) {
	for _, turn := range allTurns() {
		for _, year := range outside(impl.MaxYears + 1) {
			for _, days := range append(badDays(), someDays()...) {
				wantDaysBefore(t, turn, days, year, -1)
			}
		}
		for _, days := range badDays() {
			for _, year := range []int{0, 1, turn.Size, impl.MaxYears} {
				wantDaysBefore(t, turn, days, year, -1)
			}
		}
	}
	for _, turn := range badTurns() {
		for _, year := range append(outside(impl.MaxYears+1), 0, 1, impl.MaxYears) {
			for _, days := range append(badDays(), someDays()...) {
				wantDaysBefore(t, turn, days, year, -1)
			}
		}
	}
}

func TestPromise87DaysAreCountedOn(t *testing.T) {
	eachCountedOn(func(turn impl.Turn, days int, year int, day int, number int) {
		wantDayNumber(t, turn, days, year, day, number)
	})
}

func TestPromise87TheDateOfTheNumber(t *testing.T) {
	for _, turn := range allTurns() {
		for _, days := range []int{1, 7} {
			for year := range impl.MaxYears {
				for day := range days + 1 {
					if number := impl.DayNumber(turn, days, year, day); number != -1 {
						wantDate(t, turn, days, number, year, day)
					} else if day < days || impl.LongYear(turn, year) {
						t.Fatalf("%v, %d days, has not the day %d of the year %d", turn, days, day, year)
					}
				}
			}
		}
	}
}

func TestPromise87FirstDaysAndLastOnes(t *testing.T) {
	eachEdge(func(turn impl.Turn, days int, year int, day int, number int) {
		wantDayNumber(t, turn, days, year, day, number)
		wantDate(t, turn, days, number, year, day)
	})
}

func TestPromise87LongYearsHaveOneDayMore(t *testing.T) {
	for _, turn := range allTurns() {
		for _, days := range someDays() {
			starts := plainStarts(turn, days)
			for year, long := range plainYears(turn) {
				wantDayNumber(t, turn, days, year, days-1, starts[year]+days-1)
				want := -1
				if long {
					want = starts[year] + days
				}
				wantDayNumber(t, turn, days, year, days, want)
				wantDayNumber(t, turn, days, year, days+1, -1)
				wantDayNumber(t, turn, days, year, -1, -1)
			}
		}
	}
}

func TestPromise87TheEnds(t *testing.T) {
	for _, turn := range allTurns() {
		for _, days := range someDays() {
			all := plainStarts(turn, days)[impl.MaxYears]
			wantDayNumber(t, turn, days, 0, 0, 0)
			wantDayNumber(t, turn, days, 1, 0, days)
			wantDayNumber(t, turn, days, impl.MaxYears-1, days-1, all-1-plainLeap(turn, impl.MaxYears-1))
			wantDayNumber(t, turn, days, impl.MaxYears-1, days-1+plainLeap(turn, impl.MaxYears-1), all-1)
			wantDayNumber(t, turn, days, impl.MaxYears, 0, -1)
		}
	}
}

func TestPromise87KnownDays(t *testing.T) {
	wantDayNumber(t, fifths, 10, 0, 9, 9)
	wantDayNumber(t, fifths, 10, 0, 10, -1)
	wantDayNumber(t, fifths, 10, 1, 0, 10)
	wantDayNumber(t, fifths, 10, 1, 10, 20)
	wantDayNumber(t, fifths, 10, 2, 10, -1)
	wantDayNumber(t, julian, 365, 3, 365, 1460)
	wantDayNumber(t, julian, 365, 4, 0, 1461)
	wantDayNumber(t, julian, 365, 4, 365, -1)
	wantDayNumber(t, julian, 365, 199, 365, 73049)
	wantDayNumber(t, metonic, 12, 18, 12, 234)
	wantDayNumber(t, metonic, 12, 19, 12, -1)
	wantDayNumber(t, two, 1, 1, 1, 2)
	wantDayNumber(t, two, 1, 2, 1, -1)
}

func TestPromise87BadArguments(t *testing.T) {
	for _, turn := range allTurns() {
		for _, day := range []int{-1, -365, math.MaxInt, math.MinInt, impl.MaxDays + 1} {
			for _, year := range []int{0, 1, turn.Size - 1, impl.MaxYears - 1, impl.MaxYears} {
				wantDayNumber(t, turn, impl.MaxDays, year, day, -1)
				wantDayNumber(t, turn, 1, year, day, -1)
			}
		}
		for _, year := range outside(impl.MaxYears) {
			for _, day := range []int{-1, 0, 1, 11} {
				wantDayNumber(t, turn, 12, year, day, -1)
			}
		}
		for _, days := range badDays() {
			for _, day := range []int{-2, -1, 0, 1, days - 1, days} {
				wantDayNumber(t, turn, days, turn.Size-1, day, -1)
				wantDayNumber(t, turn, days, 0, day, -1)
			}
		}
	}
	for _, turn := range badTurns() {
		for _, year := range append(outside(impl.MaxYears), 0, 1, impl.MaxYears-1) {
			for _, days := range append(badDays(), someDays()...) {
				wantDayNumber(t, turn, days, year, 0, -1)
				wantDayNumber(t, turn, days, year, -1, -1)
				wantDayNumber(t, turn, days, year, days-1, -1)
			}
		}
	}
}

func TestPromise88DatesAreCountedOn(t *testing.T) {
	eachCountedOn(func(turn impl.Turn, days int, year int, day int, number int) {
		wantDate(t, turn, days, number, year, day)
	})
}

func TestPromise88TheNumberOfTheDate(t *testing.T) {
	for _, turn := range allTurns() {
		for number := range impl.DaysBefore(turn, 5, impl.MaxYears) {
			year, day, _ := impl.DateOf(turn, 5, number)
			wantDayNumber(t, turn, 5, year, day, number)
		}
	}
	for _, turn := range append(utmostTurns(), julian, tabular) {
		for number := range impl.DaysBefore(turn, impl.MaxDays, impl.MaxYears) {
			year, day, _ := impl.DateOf(turn, impl.MaxDays, number)
			wantDayNumber(t, turn, impl.MaxDays, year, day, number)
		}
	}
}

func TestPromise88TheYearIsToldByADivisionRoundedUp(t *testing.T) {
	wantYear := func(turn impl.Turn, days int, number int) {
		year, _, _ := impl.DateOf(turn, days, number)
		// Rounded up, one year more is the least number that reaches it.
		parts, reach := days*turn.Size+turn.Step, (number+1)*turn.Size
		if year*parts >= reach || (year+1)*parts < reach {
			t.Fatalf("DateOf of %v, %d days, the number %d, has the year %d", turn, days, number, year)
		}
	}
	for _, turn := range allTurns() {
		for _, days := range []int{1, 6} {
			for number := range impl.DaysBefore(turn, days, impl.MaxYears) {
				wantYear(turn, days, number)
			}
		}
	}
	eachEdge(func(turn impl.Turn, days int, _ int, _ int, number int) { wantYear(turn, days, number) })
}

func TestPromise88TheEnds(t *testing.T) {
	for _, turn := range allTurns() {
		for _, days := range someDays() {
			starts := plainStarts(turn, days)
			all, last := starts[impl.MaxYears], starts[impl.MaxYears-1]
			wantDate(t, turn, days, 0, 0, 0)
			wantDate(t, turn, days, days-1, 0, days-1)
			wantDate(t, turn, days, days, 1, 0)
			wantDate(t, turn, days, all-1, impl.MaxYears-1, all-1-last)
			wantDate(t, turn, days, last, impl.MaxYears-1, 0)
			wantNoDate(t, turn, days, -1)
			wantNoDate(t, turn, days, all)
			wantNoDate(t, turn, days, all+1)
		}
	}
}

func TestPromise88KnownDates(t *testing.T) {
	for number, want := range map[int][]int{0: {0, 0}, 9: {0, 9}, 10: {1, 0}, 20: {1, 10}, 21: {2, 0}, 30: {2, 9}, 31: {3, 0}, 126: {11, 10}, 127: {12, 0}, 2115: {199, 9}} {
		wantDate(t, fifths, 10, number, want[0], want[1])
	}
	wantNoDate(t, fifths, 10, 2116)
	wantDate(t, julian, 365, 1094, 2, 364)
	wantDate(t, julian, 365, 1460, 3, 365)
	wantDate(t, julian, 365, 1461, 4, 0)
	wantDate(t, julian, 365, 73049, 199, 365)
	wantNoDate(t, julian, 365, 73050)
	wantDate(t, metonic, 12, 234, 18, 12)
	wantDate(t, metonic, 12, 235, 19, 0)
	wantDate(t, tabular, 354, 10630, 29, 354)
	wantDate(t, two, 1, 299, 199, 1)
	wantDate(t, impl.Turn{Size: 60, Step: 1}, 1, 60, 59, 1)
	wantDate(t, impl.Turn{Size: 60, Step: 59}, 400, 80195, 199, 400)
}

func TestPromise88BadArguments(t *testing.T) {
	for _, turn := range allTurns() {
		for _, days := range someDays() {
			for _, number := range outside(plainStarts(turn, days)[impl.MaxYears]) {
				wantNoDate(t, turn, days, number)
			}
		}
		for _, days := range badDays() {
			for _, number := range []int{-1, 0, 1, 365, math.MaxInt, math.MinInt} {
				wantNoDate(t, turn, days, number)
			}
		}
	}
	for _, turn := range badTurns() {
		for _, days := range append(badDays(), someDays()...) {
			for _, number := range []int{-2, -1, 0, 1, 365, math.MaxInt, math.MinInt} {
				wantNoDate(t, turn, days, number)
			}
		}
	}
}

func TestPromise89TheDriftIsAPoint(t *testing.T) {
	for _, turn := range allTurns() {
		points := walk(turn)
		for year := range impl.MaxYears + 1 {
			wantDrift(t, turn, year, points[year%turn.Size])
			wantDrift(t, turn, year, impl.PointOf(turn, year%turn.Size))
		}
	}
}

func TestPromise89NeverBehindByADay(t *testing.T) {
	for _, turn := range allTurns() {
		for year := range impl.MaxYears + 1 {
			if drift := impl.DriftOf(turn, year); drift < 0 || drift >= turn.Size {
				t.Fatalf("DriftOf of %v, the year %d, is %d", turn, year, drift)
			}
		}
	}
}

func TestPromise89LongYearsCatchUp(t *testing.T) {
	for _, turn := range allTurns() {
		behind := 0
		for year, long := range plainYears(turn) {
			wantDrift(t, turn, year, behind)
			behind += turn.Step
			if long {
				behind -= turn.Size
			}
		}
		wantDrift(t, turn, impl.MaxYears, behind)
	}
}

func TestPromise89YearsLessLongOnes(t *testing.T) {
	eachYear(func(turn impl.Turn, year int) {
		wantDrift(t, turn, year, year*turn.Step-turn.Size*impl.LongBefore(turn, year))
	})
}

func TestPromise89TheEnds(t *testing.T) {
	for _, turn := range allTurns() {
		wantDrift(t, turn, 0, 0)
		wantDrift(t, turn, 1, turn.Step)
		wantDrift(t, turn, turn.Size-1, turn.Size-turn.Step)
		wantDrift(t, turn, turn.Size, 0)
		wantDrift(t, turn, turn.Size+1, turn.Step)
		wantDrift(t, turn, impl.MaxYears-1, (impl.MaxYears-1)*turn.Step%turn.Size)
		wantDrift(t, turn, impl.MaxYears, impl.MaxYears*turn.Step%turn.Size)
	}
}

func TestPromise89StepsOfOne(t *testing.T) {
	ones, others := stepsOfOne()
	for place, turn := range ones {
		for year := range impl.MaxYears + 1 {
			round := year % turn.Size
			wantDrift(t, turn, year, round)
			wantDrift(t, others[place], year, (turn.Size-round)%turn.Size)
		}
	}
}

func TestPromise89KnownDrifts(t *testing.T) {
	for year, want := range []int{0, 7, 2, 9, 4, 11, 6, 1, 8, 3, 10, 5, 0, 7, 2} {
		wantDrift(t, fifths, year, want)
	}
	for year, want := range []int{0, 1, 2, 3, 0, 1} {
		wantDrift(t, julian, year, want)
	}
	for year, want := range []int{0, 7, 14, 2, 9, 16, 4, 11, 18, 6, 13, 1, 8, 15, 3} {
		wantDrift(t, metonic, year, want)
	}
	wantDrift(t, fifths, 200, 8)
	wantDrift(t, julian, 200, 0)
	wantDrift(t, golden, 4, 26)
}

func TestPromise89BadArguments(t *testing.T) {
	for _, turn := range allTurns() {
		for _, year := range outside(impl.MaxYears + 1) {
			wantDrift(t, turn, year, -1)
		}
	}
	for _, turn := range badTurns() {
		for _, year := range append(outside(impl.MaxYears+1), 0, 1, 12, impl.MaxYears) {
			wantDrift(t, turn, year, -1)
		}
	}
}
