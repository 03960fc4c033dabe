package tests

import (
	"fmt"
	"math"
	"regexp"
	"slices"
	"strconv"
	"strings"
	"sync"
	"testing"

	"loop.example/roundturns/impl"
)

// quartet is the place of the examples of the document.
var quartet = impl.Place{It: fifths, Many: 4}

// placesByText has each place there is, by how it is written down.
var placesByText = sync.OnceValue(func() map[string]impl.Place {
	places := map[string]impl.Place{}
	eachPlace(func(p impl.Place) { places[plainPlace(p)] = p })
	return places
})

// deedsByText has each deed that is written down, by its text.
var deedsByText = sync.OnceValue(func() map[string]impl.Deed {
	deeds := map[string]impl.Deed{
		"move L":   {Kind: impl.DkMove, Words: "L"},
		"move R":   {Kind: impl.DkMove, Words: "R"},
		"up":       {Kind: impl.DkUp},
		"flip":     {Kind: impl.DkFlip},
		"opposite": {Kind: impl.DkOpposite},
		"back":     {Kind: impl.DkBack},
	}
	for a := range 100 {
		deeds[fmt.Sprintf("many %d", a)] = impl.Deed{Kind: impl.DkMany, A: a}
		for b := range 100 {
			deeds[fmt.Sprintf("set %d %d", a, b)] = impl.Deed{Kind: impl.DkSet, A: a, B: b}
		}
	}
	return deeds
})

// textsByDeed has the text of each deed that is written down.
var textsByDeed = sync.OnceValue(func() map[impl.Deed]string {
	texts := map[impl.Deed]string{}
	for text, deed := range deedsByText() {
		texts[deed] = text
	}
	return texts
})

// turnList has each turn there is.
var turnList = sync.OnceValue(allTurns)

// turnsByMoves has the turn of each word that tells one.
var turnsByMoves = sync.OnceValue(plainTold)

// plainPlace writes a place down.
func plainPlace(p impl.Place) string {
	return fmt.Sprintf("%d %d %d", p.It.Size, p.It.Step, p.Many)
}

// plainIsPlace tells whether a place is one of all there are.
func plainIsPlace(p impl.Place) bool {
	_, ok := placesByText()[plainPlace(p)]
	return ok
}

// plainNextPlace is what a place becomes by a deed that is written down, but back; some are none.
func plainNextPlace(p impl.Place, a impl.Deed) impl.Place {
	moves := plainMoves(p.It)
	next := impl.Turn{}
	switch a.Kind {
	case impl.DkMany:
		return impl.Place{It: p.It, Many: a.A}
	case impl.DkSet:
		next = impl.Turn{Size: a.A, Step: a.B}
	case impl.DkMove:
		next = turnsByMoves()[moves+a.Words]
	case impl.DkUp:
		if moves != "" {
			next = turnsByMoves()[moves[:len(moves)-1]]
		}
	case impl.DkFlip:
		next = impl.Turn{Size: p.It.Size, Step: p.It.Size - p.It.Step}
	case impl.DkOpposite:
		next = impl.Turn{Size: p.It.Size, Step: timeOfOne(p.It)}
	}
	if p.Many > next.Size {
		return impl.Place{It: next, Many: next.Size}
	}
	return impl.Place{It: next, Many: p.Many}
}

// plainDo is a desk after a deed, and whether it was done; what is not written down is none that can be.
func plainDo(d impl.Desk, a impl.Deed) (impl.Desk, bool) {
	if textsByDeed()[a] == "" {
		return d, false
	}
	many := len(d.Past)
	if a.Kind == impl.DkBack {
		if many == 0 {
			return d, false
		}
		return impl.Desk{Now: d.Past[many-1], Past: slices.Clone(d.Past[:many-1])}, true
	}
	next := plainNextPlace(d.Now, a)
	if next == d.Now || !plainIsPlace(next) {
		return d, false
	}
	past := append(slices.Clone(d.Past), d.Now)
	for len(past) > 8 {
		past = past[1:]
	}
	return impl.Desk{Now: next, Past: past}, true
}

// plainRun is a desk after deeds, and how many were done.
func plainRun(d impl.Desk, list []impl.Deed) (impl.Desk, int) {
	count := 0
	for _, deed := range list {
		if after, done := plainDo(d, deed); done {
			d = after
			count++
		}
	}
	return d, count
}

// commas writes a list down with commas between the numbers.
func commas(list []int) string {
	return strings.Trim(strings.ReplaceAll(fmt.Sprint(list), " ", ","), "[]")
}

// plainScaleWord tells whether so many points are a scale.
func plainScaleWord(p impl.Place) string {
	if p.Many >= 2 && plainScale(p.It, p.Many) {
		return "yes"
	}
	return "no"
}

// plainKindsOf are the lengths of gaps, each once.
func plainKindsOf(p impl.Place) []int {
	gaps := plainGaps(p.It, p.Many)
	slices.Sort(gaps)
	return slices.Compact(gaps)
}

var aNumberQuestion = regexp.MustCompile("^(point|time|digits|visits|returns) (0|[1-9][0-9]{0,5})$")

// plainAnswer is what answers a line that is no deed, of walked points.
func plainAnswer(p impl.Place, line string) string {
	switch line {
	case "place":
		return plainPlace(p)
	case "gaps":
		return commas(plainGaps(p.It, p.Many))
	case "kinds":
		return commas(plainKindsOf(p))
	case "order":
		return commas(plainOrder(p.It, p.Many))
	case "records":
		return commas(plainAbove(p.It))
	case "quotients":
		return commas(plainQuotients(p.It))
	case "basis":
		return commas(plainBasis(p.It))
	case "scales":
		return commas(plainScales(p.It))
	case "moves":
		return plainRuns(plainMoves(p.It))
	case "code":
		return plainLetters(p.It)[:p.It.Size]
	case "saw":
		return fmt.Sprint(plainSaw(p.It))
	case "far":
		return fmt.Sprint(plainFar(p.It)[p.Many])
	case "scale":
		return plainScaleWord(p)
	}
	parts := aNumberQuestion.FindStringSubmatch(line)
	if parts == nil {
		return "what"
	}
	number, _ := strconv.Atoi(parts[2])
	return plainTellOf(p, parts[1], number)
}

// plainTellOf is what answers a question with a number.
func plainTellOf(p impl.Place, word string, number int) string {
	size := p.It.Size
	switch {
	case word == "point" && number < size:
		return fmt.Sprint(walk(p.It)[number])
	case word == "time" && number < size:
		return fmt.Sprint(slices.Index(walk(p.It), number))
	case word == "digits" && number < size:
		return commas(plainDigits(plainBasis(p.It), number))
	case word == "visits" && number <= size:
		return fmt.Sprint(plainVisits(p.It, p.Many, 0, number))
	case word == "returns" && number >= 1 && number <= size:
		return commas(plainTimes(p.It, number))
	}
	return "none"
}

// plainLine is a desk after a line, and the answer.
func plainLine(d impl.Desk, line string) (impl.Desk, string) {
	deed, ok := deedsByText()[line]
	if !ok {
		return d, plainAnswer(d.Now, line)
	}
	after, done := plainDo(d, deed)
	if !done {
		return d, "not"
	}
	return after, "ok"
}

// plainSay is a desk after lines, and the answers.
func plainSay(d impl.Desk, lines []string) (impl.Desk, []string) {
	var answers []string
	for _, line := range lines {
		var answer string
		d, answer = plainLine(d, line)
		answers = append(answers, answer)
	}
	return d, answers
}

// plainJournal writes deeds down, one in a line; nothing if one of them is not written.
func plainJournal(list []impl.Deed) string {
	journal := ""
	for _, deed := range list {
		text := textsByDeed()[deed]
		if text == "" {
			return ""
		}
		journal += text + "\n"
	}
	return journal
}

// plainReadJournal looks up line by line, until one is no deed, or has no newline.
func plainReadJournal(text string) ([]impl.Deed, int) {
	var list []impl.Deed
	read := 0
	for _, line := range strings.SplitAfter(text, "\n") {
		deed, ok := deedsByText()[strings.TrimSuffix(line, "\n")]
		if !ok || !strings.HasSuffix(line, "\n") {
			break
		}
		list = append(list, deed)
		read += len(line)
	}
	return list, read
}

// plainOpen is the desk of a store.
func plainOpen(s impl.Store) impl.Desk {
	list, _ := plainReadJournal(s.Log)
	d, _ := plainRun(impl.Desk{Now: placesByText()[s.Saved]}, list)
	return d
}

// dice tell numbers that look like any, and are the same ones each time.
type dice uint64

func (d *dice) below(bound int) int {
	*d = *d*6364136223846793005 + 1442695040888963407
	return int(*d>>33) % bound
}

// place is one of all places there are.
func (d *dice) place() impl.Place {
	turn := turnList()[d.below(len(turnList()))]
	return impl.Place{It: turn, Many: 1 + d.below(turn.Size)}
}

// deed is one that is written down, and can be done quite often.
func (d *dice) deed() impl.Deed {
	switch kind := d.below(8); kind {
	case impl.DkSet:
		p := d.place()
		return impl.Deed{Kind: kind, A: p.It.Size, B: p.It.Step}
	case impl.DkMany:
		return impl.Deed{Kind: kind, A: d.below(30)}
	case impl.DkMove, 7:
		return impl.Deed{Kind: impl.DkMove, Words: []string{"L", "R"}[d.below(2)]}
	default:
		return impl.Deed{Kind: kind}
	}
}

// deeds are so many deeds.
func (d *dice) deeds(many int) []impl.Deed {
	var list []impl.Deed
	for range many {
		list = append(list, d.deed())
	}
	return list
}

// eachPlace calls for each place there is.
func eachPlace(call func(p impl.Place)) {
	eachMany(1, func(turn impl.Turn, many int) { call(impl.Place{It: turn, Many: many}) })
}

// eachSomePlace calls for each turn with one point, with two, with half of them, with all but one, and with all.
func eachSomePlace(call func(p impl.Place)) {
	for _, turn := range allTurns() {
		list := []int{1, 2, max(1, turn.Size/2), turn.Size - 1, turn.Size}
		slices.Sort(list)
		for _, many := range slices.Compact(list) {
			call(impl.Place{It: turn, Many: many})
		}
	}
}

// somePlaces are places of turns of different sizes, with one point, some, and as many as Size.
func somePlaces() []impl.Place {
	var places []impl.Place
	for _, turn := range append(utmostTurns(), fifths, golden, sevens, impl.Turn{Size: 3, Step: 2}, impl.Turn{Size: 5, Step: 2}, impl.Turn{Size: 59, Step: 29}) {
		for _, many := range []int{1, 2, 7, turn.Size - 1, turn.Size} {
			if many >= 1 && many <= turn.Size {
				places = append(places, impl.Place{It: turn, Many: many})
			}
		}
	}
	return places
}

// notPlaces are places that are none, by the turn or by the number of points.
func notPlaces() []impl.Place {
	var places []impl.Place
	for _, turn := range badTurns() {
		for _, many := range []int{0, 1, 2, turn.Size, -turn.Size} {
			places = append(places, impl.Place{It: turn, Many: many})
		}
	}
	for _, turn := range append(utmostTurns(), fifths, golden) {
		for _, many := range badMany(turn) {
			places = append(places, impl.Place{It: turn, Many: many})
		}
	}
	return places
}

// pasts are rows of places of before: none, one, some, and as many as there may be.
func pasts() [][]impl.Place {
	d := dice(15)
	rows := [][]impl.Place{nil, {}, {quartet}, {quartet, quartet}, {{It: two, Many: 2}, {It: golden, Many: 55}, quartet}}
	for _, many := range []int{impl.MaxPast - 1, impl.MaxPast} {
		var row []impl.Place
		for range many {
			row = append(row, d.place())
		}
		rows = append(rows, row)
	}
	return rows
}

// someDesks are desks of some places, with different places of before.
func someDesks() []impl.Desk {
	var desks []impl.Desk
	for _, now := range somePlaces() {
		for _, past := range pasts() {
			desks = append(desks, impl.Desk{Now: now, Past: past})
		}
	}
	return desks
}

// notDesks are desks that are none: by the place, by one of before, and by too many of before.
func notDesks() []impl.Desk {
	desks := []impl.Desk{
		{},
		{Past: []impl.Place{quartet}},
		{Now: quartet, Past: slices.Repeat([]impl.Place{quartet}, impl.MaxPast+1)},
		{Now: quartet, Past: slices.Repeat([]impl.Place{quartet}, 100)},
	}
	for _, bad := range notPlaces() {
		desks = append(desks,
			impl.Desk{Now: bad}, impl.Desk{Now: bad, Past: []impl.Place{quartet}}, impl.Desk{Now: quartet, Past: []impl.Place{bad}},
			impl.Desk{Now: quartet, Past: []impl.Place{bad, quartet}}, impl.Desk{Now: quartet, Past: []impl.Place{quartet, bad}},
			impl.Desk{Now: quartet, Past: append(slices.Repeat([]impl.Place{quartet}, impl.MaxPast-1), bad)},
		)
	}
	return desks
}

// someDeeds are deeds of each kind that are written down; some can be done at few desks, or at none.
func someDeeds() []impl.Deed {
	deeds := []impl.Deed{{Kind: impl.DkMove, Words: "L"}, {Kind: impl.DkMove, Words: "R"}, {Kind: impl.DkUp}, {Kind: impl.DkFlip}, {Kind: impl.DkOpposite}, {Kind: impl.DkBack}}
	for _, turn := range []impl.Turn{two, fifths, golden, sevens, {Size: 12, Step: 5}, {Size: 60, Step: 59}, {Size: 5, Step: 2}, {}, {Size: 0, Step: 99}, {Size: 99, Step: 0}, {Size: 99, Step: 98}, {Size: 61, Step: 1}, {Size: 12, Step: 8}, {Size: 1, Step: 0}, {Size: 1, Step: 1}, {Size: 12, Step: 12}, {Size: 7, Step: 12}} {
		deeds = append(deeds, impl.Deed{Kind: impl.DkSet, A: turn.Size, B: turn.Step})
	}
	for _, many := range []int{0, 1, 2, 3, 4, 7, 12, 13, 55, 59, 60, 61, 99} {
		deeds = append(deeds, impl.Deed{Kind: impl.DkMany, A: many})
	}
	return deeds
}

// strangeDeeds have no text, and can be done at no desk: of other kinds, with numbers or texts where none are named, with other moves, and with numbers that are too great or too small.
func strangeDeeds() []impl.Deed {
	var deeds []impl.Deed
	for _, kind := range []int{-1, 7, 8, 99, math.MaxInt, math.MinInt} {
		deeds = append(deeds, impl.Deed{Kind: kind}, impl.Deed{Kind: kind, A: 5, B: 2}, impl.Deed{Kind: kind, A: 3}, impl.Deed{Kind: kind, Words: "L"})
	}
	for _, kind := range []int{impl.DkMove, impl.DkUp, impl.DkFlip, impl.DkOpposite, impl.DkBack} {
		for _, words := range []string{"", "L", "R"} {
			if words == "" && kind == impl.DkMove {
				words = "L"
			}
			for _, number := range []int{1, -1, 60, math.MaxInt} {
				deeds = append(deeds, impl.Deed{Kind: kind, A: number, Words: words}, impl.Deed{Kind: kind, B: number, Words: words}, impl.Deed{Kind: kind, A: number, B: -number, Words: words})
			}
		}
	}
	for _, words := range []string{"L", "R", " ", "x", "0", "\n", "up"} {
		deeds = append(deeds, impl.Deed{Kind: impl.DkSet, A: 5, B: 2, Words: words}, impl.Deed{Kind: impl.DkMany, A: 3, Words: words})
		for _, kind := range []int{impl.DkUp, impl.DkFlip, impl.DkOpposite, impl.DkBack} {
			deeds = append(deeds, impl.Deed{Kind: kind, Words: words})
		}
	}
	for _, words := range []string{"", "LL", "LR", "RL", "l", "r", "x", "L ", " L", "L\n", "\x00", "L1", ".", strings.Repeat("L", 100)} {
		deeds = append(deeds, impl.Deed{Kind: impl.DkMove, Words: words})
	}
	for _, number := range []int{1, -1, 60, math.MaxInt, math.MinInt} {
		deeds = append(deeds, impl.Deed{Kind: impl.DkMany, A: 3, B: number})
	}
	for _, number := range []int{-1, 100, 101, 1000, math.MaxInt, math.MinInt} {
		deeds = append(deeds, impl.Deed{Kind: impl.DkMany, A: number}, impl.Deed{Kind: impl.DkSet, A: number, B: 1}, impl.Deed{Kind: impl.DkSet, A: 5, B: number}, impl.Deed{Kind: impl.DkSet, A: number, B: number})
	}
	return deeds
}

// journeys are places, each with deeds that are done there one after the other.
func journeys(many int, most int) map[impl.Place][]impl.Deed {
	d := dice(many*1000 + most)
	list := map[impl.Place][]impl.Deed{
		quartet:               nil,
		{It: two, Many: 1}:    d.deeds(most),
		{It: sevens, Many: 9}: {{Kind: impl.DkBack}, {Kind: impl.DkMany, A: 61}, {}},
	}
	for range many {
		list[d.place()] = d.deeds(1 + d.below(most))
	}
	return list
}

func sameDesk(d impl.Desk, e impl.Desk) bool {
	return d.Now == e.Now && slices.Equal(d.Past, e.Past)
}

func wantDesk(t *testing.T, what string, of any, got impl.Desk, ok bool, want impl.Desk, wantOk bool) {
	t.Helper()
	if !sameDesk(got, want) || ok != wantOk {
		t.Fatalf("%s of %#v is %v, %v, want %v, %v", what, of, got, ok, want, wantOk)
	}
}

// wantSame checks that a desk is one (DeskOk), and the wanted one.
func wantSame(t *testing.T, what string, of any, got impl.Desk, want impl.Desk) {
	t.Helper()
	wantDesk(t, what, of, got, impl.DeskOk(got), want, true)
}

func wantStore(t *testing.T, what string, of any, got impl.Store, ok bool, want impl.Store, wantOk bool) {
	t.Helper()
	if got != want || ok != wantOk {
		t.Fatalf("%s of %#v is %#v, %v, want %#v, %v", what, of, got, ok, want, wantOk)
	}
}

func wantDone(t *testing.T, d impl.Desk, a impl.Deed, want impl.Desk, wantOk bool) {
	t.Helper()
	got, ok := impl.DeskDo(d, a)
	wantDesk(t, "DeskDo", []any{d, a}, got, ok, want, wantOk)
}

func wantNotDone(t *testing.T, d impl.Desk, a impl.Deed) {
	t.Helper()
	wantDone(t, d, a, d, false)
}

// doneAt is a desk after a deed that is to be done.
func doneAt(t *testing.T, d impl.Desk, a impl.Deed) impl.Desk {
	t.Helper()
	after, ok := impl.DeskDo(d, a)
	if !ok {
		t.Fatalf("%v cannot be done at %v", a, d)
	}
	return after
}

func wantPlaceRead(t *testing.T, text string, want impl.Place, wantOk bool) {
	t.Helper()
	if got, ok := impl.ReadPlace(text); got != want || ok != wantOk {
		t.Fatalf("ReadPlace of %q is %v, %v, want %v, %v", text, got, ok, want, wantOk)
	}
}

func wantDeedRead(t *testing.T, text string, want impl.Deed, wantOk bool) {
	t.Helper()
	if got, ok := impl.ReadDeed(text); got != want || ok != wantOk {
		t.Fatalf("ReadDeed of %q is %v, %v, want %v, %v", text, got, ok, want, wantOk)
	}
}

func wantDeedText(t *testing.T, a impl.Deed, want string) {
	t.Helper()
	if got := impl.DeedText(a); got != want {
		t.Fatalf("DeedText of %v is %q, want %q", a, got, want)
	}
}

func wantJournalRead(t *testing.T, text string, want []impl.Deed, wantRead int) {
	t.Helper()
	if got, read := impl.ReadJournal(text); !slices.Equal(got, want) || read != wantRead {
		t.Fatalf("ReadJournal of %q is %v, %d, want %v, %d", text, got, read, want, wantRead)
	}
}

func wantRun(t *testing.T, d impl.Desk, list []impl.Deed, want impl.Desk, wantMany int) {
	t.Helper()
	if got, many := impl.DeskRun(d, list); !sameDesk(got, want) || many != wantMany {
		t.Fatalf("DeskRun of %v and %v is %v, %d, want %v, %d", d, list, got, many, want, wantMany)
	}
}

func wantAnswer(t *testing.T, d impl.Desk, line string, want string) {
	t.Helper()
	got, answer := impl.DeskLine(d, line)
	if answer != want {
		t.Fatalf("the answer to %q at %v is %q, want %q", line, d, answer, want)
	}
	if want != "ok" {
		wantSame(t, "DeskLine", []any{d, line}, got, d)
	}
}

func wantSaid(t *testing.T, d impl.Desk, lines []string, want impl.Desk, wantAnswers []string) {
	t.Helper()
	got, answers := impl.DeskSay(d, lines)
	if !sameDesk(got, want) || !slices.Equal(answers, wantAnswers) {
		t.Fatalf("DeskSay of %v and %q is %v, %q, want %v, %q", d, lines, got, answers, want, wantAnswers)
	}
}

func wantOpen(t *testing.T, s impl.Store, want impl.Desk) {
	t.Helper()
	got, ok := impl.StoreOpen(s)
	wantDesk(t, "StoreOpen", s, got, ok, want, true)
}

func TestPromise90TextsOfPlacesAreRead(t *testing.T) {
	eachPlace(func(p impl.Place) {
		text := impl.PlaceText(p)
		if text != plainPlace(p) {
			t.Fatalf("PlaceText of %v is %q, want %q", p, text, plainPlace(p))
		}
		wantPlaceRead(t, text, p, true)
	})
}

func TestPromise90KnownTexts(t *testing.T) {
	for text, p := range map[string]impl.Place{
		"12 7 4": quartet, "2 1 1": {It: two, Many: 1}, "2 1 2": {It: two, Many: 2}, "5 2 5": {It: impl.Turn{Size: 5, Step: 2}, Many: 5},
		"55 34 10": {It: golden, Many: 10}, "60 7 60": {It: sevens, Many: 60}, "60 1 1": {It: impl.Turn{Size: 60, Step: 1}, Many: 1}, "60 59 59": {It: impl.Turn{Size: 60, Step: 59}, Many: 59},
	} {
		if got := impl.PlaceText(p); got != text {
			t.Fatalf("PlaceText of %v is %q, want %q", p, got, text)
		}
		wantPlaceRead(t, text, p, true)
	}
}

func TestPromise90PlacesThatAreNone(t *testing.T) {
	for _, p := range notPlaces() {
		if got := impl.PlaceText(p); got != "" {
			t.Fatalf("PlaceText of %v, which is none, is %q", p, got)
		}
		wantPlaceRead(t, plainPlace(p), impl.Place{}, false)
	}
}

// wantAsListed checks that a text is read just if it is that of a place.
func wantAsListed(t *testing.T, text string) {
	t.Helper()
	p, ok := placesByText()[text]
	wantPlaceRead(t, text, p, ok)
	if got, read := impl.ReadPlace(text); read && impl.PlaceText(got) != text {
		t.Fatalf("the place of %q has the text %q", text, impl.PlaceText(got))
	}
}

// withSigns are a text with one sign more, one less, or another one, at each place.
func withSigns(text string) []string {
	var texts []string
	for place := range len(text) + 1 {
		for _, sign := range []string{"", " ", "0", "1", "2", "7", "9", "-", "+", "\n", "\t", "x", "L", "_", ".", "\x00", "\u0662"} {
			texts = append(texts, text[:place]+sign+text[place:])
			if place < len(text) {
				texts = append(texts, text[:place]+sign+text[place+1:])
			}
		}
	}
	return texts
}

func TestPromise91ReadTextsAreCanonical(t *testing.T) {
	for size := -1; size <= impl.MaxSize+2; size++ {
		for step := -1; step <= impl.MaxSize+2; step++ {
			for many := -1; many <= impl.MaxSize+2; many++ {
				wantAsListed(t, fmt.Sprintf("%d %d %d", size, step, many))
			}
		}
	}
}

func TestPromise91TextsThatAreChanged(t *testing.T) {
	for _, p := range somePlaces() {
		for _, text := range withSigns(plainPlace(p)) {
			wantAsListed(t, text)
		}
	}
}

func TestPromise91ShortTexts(t *testing.T) {
	for _, text := range wordsWith(" 0125-", 6) {
		wantAsListed(t, text)
	}
}

func TestPromise91ASpaceBehindOrAhead(t *testing.T) {
	eachPlace(func(p impl.Place) {
		text := impl.PlaceText(p)
		wantPlaceRead(t, text+" ", impl.Place{}, false)
		wantPlaceRead(t, " "+text, impl.Place{}, false)
	})
}

func TestPromise91OtherTexts(t *testing.T) {
	for _, text := range []string{
		"", " ", "  ", "5", "5 2", "5 2 ", "5 2  3", "5  2 3", "5 2 6", "6 2 1", "5 2 0", "5 0 1", "0 0 0", "1 1 1", "61 1 1", "05 2 1", "5 02 1", "5 2 01", "5 2 1 1", "5 2 1\n", "5\n2\n1", "5\t2\t1", "5,2,1", "5 2 1 ",
		"+5 2 1", "5 +2 1", "5 2 +1", "-5 2 1", "5 -2 1", "5 2 -1", "5 2 -0", "0x5 2 1", "5 2 1.0", "5 2 1e0", "5 2 x", "x", "place", "set 5 2", "many 3", "1_2 7 4", "12 7 4_", "\uff15 2 1", "5 2 \u0661", "\x005 2 1", "5 2 1\x00", "5\xa02\xa01",
		"000005 2 1", "5 2 0000001", "1000000 1 1", "5 2 1000000", "18446744073709551621 2 1", "5 18446744073709551618 1", "5 2 18446744073709551617", "4294967301 2 1", "9223372036854775807 1 1", "-9223372036854775808 1 1",
		strings.Repeat("5 ", 1000), strings.Repeat("5", 100000), strings.Repeat(" ", 100000), "5 2 " + strings.Repeat("0", 100000) + "1",
	} {
		wantPlaceRead(t, text, impl.Place{}, false)
	}
}

func TestPromise92WhateverIsDone(t *testing.T) {
	for p, list := range journeys(300, impl.MaxLines) {
		for _, past := range pasts() {
			d := impl.Desk{Now: p, Past: past}
			want, many := plainRun(d, list)
			wantRun(t, d, list, want, many)
			wantSame(t, "the desk after deeds", list, want, want)
		}
	}
}

func TestPromise92InTwoParts(t *testing.T) {
	for p, list := range journeys(60, impl.MaxLines) {
		d := impl.Desk{Now: p, Past: pasts()[4]}
		whole, many := impl.DeskRun(d, list)
		for place := range len(list) + 1 {
			first, before := impl.DeskRun(d, list[:place])
			wantSame(t, "the desk after deeds", list[:place], first, first)
			wantRun(t, first, list[place:], whole, many-before)
		}
	}
}

func TestPromise92NoDeedsAndMaxLines(t *testing.T) {
	for _, d := range someDesks() {
		wantRun(t, d, nil, d, 0)
		wantRun(t, d, []impl.Deed{}, d, 0)
		wantRun(t, d, []impl.Deed{{Kind: 7}, {Kind: impl.DkMany}, {}}, d, 0)
	}
	d := impl.Desk{Now: quartet}
	flips := slices.Repeat([]impl.Deed{{Kind: impl.DkFlip}}, impl.MaxLines)
	past := slices.Repeat([]impl.Place{quartet, {It: impl.Turn{Size: 12, Step: 5}, Many: 4}}, 4)
	wantRun(t, d, flips, impl.Desk{Now: quartet, Past: past}, impl.MaxLines)
	wantRun(t, d, append(flips, impl.Deed{Kind: impl.DkFlip}), impl.Desk{}, 0)
	wantRun(t, d, make([]impl.Deed, impl.MaxLines), d, 0)
	wantRun(t, d, make([]impl.Deed, impl.MaxLines+1), impl.Desk{}, 0)
	wantRun(t, d, slices.Repeat(flips, 100), impl.Desk{}, 0)
}

func TestPromise92DesksThatAreNone(t *testing.T) {
	for _, d := range notDesks() {
		wantRun(t, d, nil, impl.Desk{}, 0)
		wantRun(t, d, someDeeds()[:impl.MaxLines/2], impl.Desk{}, 0)
		wantRun(t, d, []impl.Deed{{Kind: impl.DkSet, A: 5, B: 2}, {Kind: impl.DkBack}}, impl.Desk{}, 0)
	}
}

// someJournals are texts of journals, of none and of one deed, of all kinds, and of many.
func someJournals() []string {
	list := []string{"", "up\n", "set 0 0\n", "many 99\nset 99 99\n", "set 5 2\nmany 3\nmove L\nmove R\nup\nflip\nopposite\nback\n", strings.Repeat("opposite\n", 50)}
	for _, deeds := range journeys(40, 12) {
		list = append(list, plainJournal(deeds))
	}
	return list
}

func TestPromise93JournalsAreReadWholeOrInPart(t *testing.T) {
	for _, journal := range someJournals() {
		deeds, read := impl.ReadJournal(journal)
		if read != len(journal) || impl.JournalText(deeds) != journal {
			t.Fatalf("of %q %d bytes are read, with the text %q", journal, read, impl.JournalText(deeds))
		}
		for cut := range len(journal) + 1 {
			many := strings.Count(journal[:cut], "\n")
			wantJournalRead(t, journal[:cut], deeds[:many], strings.LastIndex(journal[:cut], "\n")+1)
		}
	}
}

func TestPromise93LineByLineTheyLeadToTheSameDesk(t *testing.T) {
	for p, deeds := range journeys(60, impl.MaxLines) {
		d := impl.Desk{Now: p}
		journal := plainJournal(deeds)
		for cut := range len(journal) + 1 {
			list, read := impl.ReadJournal(journal[:cut])
			lines := strings.Split(journal[:read], "\n")
			said, answers := impl.DeskSay(d, lines[:len(lines)-1])
			wantRun(t, d, list, said, len(answers)-countIn(answers, "not"))
		}
	}
}

// countIn counts how often a list has a text.
func countIn(list []string, text string) int {
	count := 0
	for _, other := range list {
		if other == text {
			count++
		}
	}
	return count
}

func TestPromise93TornJournals(t *testing.T) {
	many, up := impl.Deed{Kind: impl.DkMany, A: 3}, impl.Deed{Kind: impl.DkUp}
	for text, read := range map[string]int{
		"many 3\nup\n": 10, "many 3\nup\nf": 10, "many 3\nup\nfli": 10, "many 3\nup\nflip": 10, "many 3\nup\nup": 10, "many 3\nup\n\nup\n": 10, "many 3\nup\nup \n": 10, "many 3\nup\n up\n": 10, "many 3\nup\nplace\nup\n": 10, "many 3\nup\nmany 03\n": 10,
		"many 3\nup\nup\r\n": 10, "many 3\nup\n\x00": 10, "many 3\nup\nmany 100\n": 10, "many 3\nup\nset 5\n": 10, "many 3\nup\nmove LL\n": 10, "many 3\nup\nUP\n": 10, "many 3\nup\n" + strings.Repeat("x", 100000): 10,
	} {
		wantJournalRead(t, text, []impl.Deed{many, up}, read)
	}
	for _, text := range []string{"", "u", "up", "many 3", "\n", "\nup\n", " up\n", "up \n", "up\r\n", "up\x00\n", "x\nup\n", "many 03\nup\n", "what\n", "5 2 1\n", "many\n3\n", "set 5\n2\n"} {
		wantJournalRead(t, text, nil, 0)
	}
}

func TestPromise93AnyTexts(t *testing.T) {
	d := dice(93)
	parts := []string{"up\n", "back\n", "many 3\n", "many 12\n", "set 5 2\n", "move L\n", "flip", "\n", "up", "many 03\n", " ", "x\n", "place\n", "opposite\n"}
	for range 20000 {
		text := ""
		for range d.below(8) {
			text += parts[d.below(len(parts))]
		}
		want, read := plainReadJournal(text)
		wantJournalRead(t, text, want, read)
		if got := impl.JournalText(want); got != text[:read] {
			t.Fatalf("JournalText of what is read of %q is %q", text, got)
		}
	}
}

// plainQuestions are all lines that ask without a number.
func plainQuestions() []string {
	return []string{"place", "gaps", "kinds", "order", "records", "quotients", "basis", "scales", "moves", "code", "saw", "far", "scale"}
}

// numberWords are the first words of all lines that ask with a number.
func numberWords() []string {
	return []string{"point", "time", "digits", "visits", "returns"}
}

// notLines are lines that are answered by what.
func notLines() []string {
	lines := []string{
		"", " ", "\n", "x", "what", "ok", "not", "none", "yes", "12 7 4", "Place", "PLACE", "place?", "plac", "places", "gap", "move", "move x", "move l", "move LR", "move L R", "move  L", "many", "many x", "many 03", "many -1", "many +3", "many 3 4", "many 100", "many 1000000", "many  3",
		"set", "set 5", "set 5 2 1", "set 05 2", "set 5 02", "set 5  2", "set  5 2", "set -5 2", "set 5 +2", "set 100 1", "set 5 100", "set 5,2", "up up", "up 1", "back 0", "flip L", "opposite 1", "Up", "set 5 2\nup", "up\nup", "up\n", "\x00", "up\x00", "g\xe4ps", "\uff10", "point3", "point_3", "pointx 3", "poin 3", "number 3",
		strings.Repeat("up ", 1000), strings.Repeat("x", 100000),
	}
	for text := range deedsByText() {
		lines = append(lines, text+" ", " "+text)
	}
	for _, word := range plainQuestions() {
		lines = append(lines, word+" ", " "+word, word+"\n", word+" 3", word+" x", word+" "+word)
	}
	for _, word := range numberWords() {
		lines = append(lines, word, word+" ", " "+word+" 3")
		for _, number := range []string{"", " 3", "3 ", "03", "00", "000003", "+3", "-3", "-0", "+0", "1000000", "9999999", "0000001", "1e3", "0x3", "3.0", "3,4", "3 4", "x", "3x", "x3", "1_0", "\uff13", "\u0663", "3\n", "3\x00", "18446744073709551619", "4294967299", "9223372036854775808", strings.Repeat("1", 100000)} {
			lines = append(lines, word+" "+number)
		}
	}
	return lines
}

// anyLines are so many lines of deeds, questions, and others.
func anyLines(d *dice, many int) []string {
	none := []string{"", "x", "up ", "point", "point 03", "place 1", "many 100", "gaps ", "digits -1", "returns 1000000"}
	var lines []string
	for range many {
		switch d.below(5) {
		case 0:
			lines = append(lines, none[d.below(len(none))])
		case 1:
			lines = append(lines, plainQuestions()[d.below(len(plainQuestions()))])
		case 2:
			lines = append(lines, numberWords()[d.below(len(numberWords()))]+" "+strconv.Itoa(d.below(70)))
		default:
			lines = append(lines, textsByDeed()[d.deed()])
		}
	}
	return lines
}

func TestPromise94WhateverIsSaid(t *testing.T) {
	r := dice(94)
	for range 400 {
		lines := anyLines(&r, 1+r.below(impl.MaxLines))
		d := impl.Desk{Now: r.place(), Past: pasts()[r.below(len(pasts()))]}
		want, answers := plainSay(d, lines)
		wantSaid(t, d, lines, want, answers)
		wantSame(t, "the desk after lines", lines, want, want)
		if slices.Contains(answers, "") {
			t.Fatalf("of %v and %q one of the answers %q is empty", d, lines, answers)
		}
	}
}

func TestPromise94InTwoParts(t *testing.T) {
	r := dice(95)
	for range 40 {
		lines := anyLines(&r, impl.MaxLines)
		d := impl.Desk{Now: r.place()}
		whole, answers := impl.DeskSay(d, lines)
		for place := range len(lines) + 1 {
			first, before := impl.DeskSay(d, lines[:place])
			if !slices.Equal(before, answers[:place]) {
				t.Fatalf("the first answers to %q are %q, want %q", lines[:place], before, answers[:place])
			}
			wantSaid(t, first, lines[place:], whole, answers[place:])
		}
	}
}

func TestPromise94ThePlaceIsTold(t *testing.T) {
	r := dice(96)
	for range 400 {
		lines := append(anyLines(&r, r.below(impl.MaxLines)), "place")
		d, answers := impl.DeskSay(impl.Desk{Now: r.place()}, lines)
		wantPlaceRead(t, answers[len(answers)-1], d.Now, true)
	}
}

func TestPromise94NoLinesAndMaxLines(t *testing.T) {
	for _, d := range someDesks() {
		wantSaid(t, d, nil, d, nil)
		wantSaid(t, d, []string{}, d, nil)
	}
	d := impl.Desk{Now: quartet}
	flips := slices.Repeat([]string{"flip", "opposite"}, impl.MaxLines/2)
	want, answers := plainSay(d, flips)
	wantSaid(t, d, flips, want, answers)
	wantSaid(t, d, append(flips, "place"), impl.Desk{}, nil)
	wantSaid(t, d, make([]string, impl.MaxLines), d, slices.Repeat([]string{"what"}, impl.MaxLines))
	wantSaid(t, d, make([]string, impl.MaxLines+1), impl.Desk{}, nil)
	wantSaid(t, d, slices.Repeat(flips, 100), impl.Desk{}, nil)
}

func TestPromise94DesksThatAreNone(t *testing.T) {
	for _, d := range notDesks() {
		wantSaid(t, d, nil, impl.Desk{}, nil)
		wantSaid(t, d, []string{"place", "set 5 2", "back"}, impl.Desk{}, nil)
	}
}

func TestPromise94TheLinesOfTheDocument(t *testing.T) {
	d, _ := impl.DeskNew(quartet)
	var lines, answers []string
	for _, row := range [][2]string{
		{"gaps", "2,5,2,3"}, {"order", "0,2,1,3"}, {"records", "1,2,7"}, {"quotients", "1,1,2,2"}, {"scales", "2,3,5,7,12"}, {"moves", "R1L2R1"}, {"code", "010101101011"}, {"saw", "8"}, {"digits 9", "0,2,1"}, {"returns 4", "2,3,5"},
		{"many 7", "ok"}, {"scale", "yes"}, {"flip", "ok"}, {"place", "12 5 7"}, {"opposite", "not"}, {"up", "ok"}, {"place", "7 3 7"},
	} {
		lines, answers = append(lines, row[0]), append(answers, row[1])
	}
	past := []impl.Place{quartet, {It: fifths, Many: 7}, {It: impl.Turn{Size: 12, Step: 5}, Many: 7}}
	wantSaid(t, d, lines, impl.Desk{Now: impl.Place{It: impl.Turn{Size: 7, Step: 3}, Many: 7}, Past: past}, answers)
}

// notSaved are texts that no store has saved.
func notSaved() []string {
	return []string{"", " ", "x", "12 7", "12 7 0", "12 7 13", "12 8 4", "12 7 4 ", " 12 7 4", "12  7 4", "012 7 4", "12 7 04", "+12 7 4", "12 7 -4", "12 7 4\n", "12 7 4 1", "61 1 1", "0 0 0", "1 0 1", "set 12 7", "12 7 1000000"}
}

// shortLogs are logs that are read whole, and torn ones: in the midst of a line, ahead of a newline, and behind one, with deeds that can be done, and that cannot.
func shortLogs() []string {
	return []string{
		"", "up\n", "up", "u", "\n", " ", "x", "x\n", "\x00\xff", "many 3\n", "many 3\nup\nflip\n", "many 3\nup\nflip", "many 3\nup\nfli", "many 3\nup\n", "many 3\nup\n\nflip\n", "many 3\nup \nflip\n", "many 3\nmany 03\nflip\n",
		"back\nback\nmany 2\nback\nback\nmany 2\nmany 2\n", "set 5 2\nset 6 2\nset 5 2\nmany 61\nmove L\nback\nback\nback\nup\nup\nup\nup\nup\nup\n", "set 0 0\nmany 0\nset 99 99\nmany 99\n", "opposite\nflip\nopposite\nflip\nopposite\nflip\nmove R\nmove L\nmove R\nmany 1\nback\nback\nba",
		"set 2 1\nup\nflip\nopposite\nmany 2\nmove L\nmove L\nup\n", "set 60 1\nmove L\nmove R\nmany 60\nup\nset 60 59\nmany 59\nback\n", "many 3\r\nup\r\n", "place\nmany 3\n", "many 2\ngaps\nmany 3\n", "move L\nmove LR\n",
	}
}

// longLogs are logs of MaxLog bytes, or some fewer: read whole, and torn.
func longLogs() []string {
	most := impl.MaxLog
	return []string{
		strings.Repeat("flip\n", most/5), strings.Repeat("flip\n", most/5-1), strings.Repeat("up\n", most/3), strings.Repeat("up\n", most/3) + "\n", strings.Repeat("up\n", most/3) + "u", strings.Repeat("move L\nup\n", most/10),
		strings.Repeat("many 1\nback\n", 83) + "many", strings.Repeat("set 5 2\nset 12 7\n", 58) + "many 3\nback\n", strings.Repeat("x", most), strings.Repeat("opposite\n", 111) + "x", strings.Repeat("\n", most), "many 3\nfl" + strings.Repeat("ip", most/2-5) + "i",
	}
}

// eachLog calls for some saved texts with each log.
func eachLog(call func(saved string, log string)) {
	for _, saved := range []string{"12 7 4", "12 7 12", "2 1 1", "2 1 2", "55 34 30", "60 1 60", "60 59 1"} {
		for _, log := range append(shortLogs(), longLogs()...) {
			call(saved, log)
		}
	}
}

// eachStore calls with stores of each log: of short ones with each number of sure bytes, of long ones with some.
func eachStore(call func(s impl.Store)) {
	eachLog(func(saved string, log string) {
		for _, sure := range placesIn(log, 0, 600) {
			call(impl.Store{Saved: saved, Log: log, Sure: sure})
		}
	})
}

// eachLeft calls with the stores that are left of one that broke down: of a short log with each number of bytes, of a long one with some.
func eachLeft(t *testing.T, s impl.Store, call func(crash impl.Store)) {
	t.Helper()
	for _, left := range placesIn(s.Log, s.Sure, 149) {
		call(crashOf(t, s, left))
	}
}

// placesIn are the numbers from a first one up to the bytes of a log: each one of a short log, of a long one the last one and some with a step between.
func placesIn(log string, first int, step int) []int {
	if len(log) <= 100 {
		step = 1
	}
	var places []int
	for place := first; place < len(log); place += step {
		places = append(places, place)
	}
	return append(places, len(log))
}

// notStores are stores that are none: by the saved text, by the length of the log, and by the bytes that are sure.
func notStores() []impl.Store {
	most := impl.MaxLog
	stores := []impl.Store{
		{}, {Log: "up\n"}, {Saved: "12 7 4", Sure: 1}, {Saved: "12 7 4", Sure: -1}, {Saved: "12 7 4", Log: "up\n", Sure: 4}, {Saved: "12 7 4", Log: "up\n", Sure: -1}, {Saved: "12 7 4", Log: "up\n", Sure: math.MaxInt}, {Saved: "12 7 4", Log: "up\n", Sure: math.MinInt},
		{Saved: "12 7 4", Log: strings.Repeat("flip\n", most/5) + "x"}, {Saved: "12 7 4", Log: strings.Repeat("x", most+1), Sure: most}, {Saved: "12 7 4", Log: strings.Repeat("x", most+1), Sure: most + 1}, {Saved: "12 7 4", Log: strings.Repeat("flip\n", most/5+1), Sure: 5}, {Saved: "12 7 4", Log: strings.Repeat("flip\n", 100000)},
	}
	for _, saved := range notSaved() {
		stores = append(stores, impl.Store{Saved: saved}, impl.Store{Saved: saved, Log: "up\n"}, impl.Store{Saved: saved, Log: "up\nfl", Sure: 3})
	}
	return stores
}

func wantStoreOk(t *testing.T, s impl.Store, want bool) {
	t.Helper()
	if got := impl.StoreOk(s); got != want {
		t.Fatalf("StoreOk of %#v is %v, want %v", s, got, want)
	}
}

// storeOf is the store of a place that is one.
func storeOf(t *testing.T, p impl.Place) impl.Store {
	t.Helper()
	s, ok := impl.StoreNew(p)
	wantStore(t, "StoreNew", p, s, ok, impl.Store{Saved: plainPlace(p)}, true)
	return s
}

// openOf is the desk of a store that is one.
func openOf(t *testing.T, s impl.Store) impl.Desk {
	t.Helper()
	d, ok := impl.StoreOpen(s)
	if !ok {
		t.Fatalf("%#v does not open", s)
	}
	return d
}

func wantActed(t *testing.T, s impl.Store, a impl.Deed, want impl.Store, wantOk bool) {
	t.Helper()
	got, ok := impl.StoreAct(s, a)
	wantStore(t, "StoreAct", []any{s, a}, got, ok, want, wantOk)
}

func wantCrashed(t *testing.T, s impl.Store, left int, want impl.Store, wantOk bool) {
	t.Helper()
	got, ok := impl.StoreCrash(s, left)
	wantStore(t, "StoreCrash", []any{s, left}, got, ok, want, wantOk)
}

func wantMended(t *testing.T, s impl.Store, want impl.Store) {
	t.Helper()
	got, ok := impl.StoreMend(s)
	wantStore(t, "StoreMend", s, got, ok, want, true)
}

func wantSynced(t *testing.T, s impl.Store, want impl.Store) {
	t.Helper()
	got, ok := impl.StoreSync(s)
	wantStore(t, "StoreSync", s, got, ok, want, true)
}

func wantSaved(t *testing.T, s impl.Store, want impl.Store) {
	t.Helper()
	got, ok := impl.StoreSave(s)
	wantStore(t, "StoreSave", s, got, ok, want, true)
}

// crashOf is a store that broke down with so many bytes left, at least those that are sure.
func crashOf(t *testing.T, s impl.Store, left int) impl.Store {
	t.Helper()
	wantCrashed(t, s, left, impl.Store{Saved: s.Saved, Log: s.Log[:left], Sure: s.Sure}, true)
	crash, _ := impl.StoreCrash(s, left)
	return crash
}

// mendOf is a store without the torn end of its log.
func mendOf(t *testing.T, s impl.Store) impl.Store {
	t.Helper()
	_, read := plainReadJournal(s.Log)
	wantMended(t, s, impl.Store{Saved: s.Saved, Log: s.Log[:read], Sure: min(s.Sure, read)})
	mended, _ := impl.StoreMend(s)
	return mended
}

func TestPromise95StoresOfAnyLog(t *testing.T) {
	eachStore(func(s impl.Store) {
		wantStoreOk(t, s, true)
		wantStoreOk(t, impl.Store{Saved: s.Saved}, true)
		if s.Sure > 0 {
			wantStoreOk(t, impl.Store{Saved: s.Saved, Log: s.Log, Sure: s.Sure - 1}, true)
		}
	})
}

func TestPromise95AnyPlaceMayBeSaved(t *testing.T) {
	eachPlace(func(p impl.Place) {
		wantStoreOk(t, impl.Store{Saved: plainPlace(p)}, true)
		wantStoreOk(t, impl.Store{Saved: plainPlace(p), Log: "up\nfl", Sure: 5}, true)
		wantStoreOk(t, impl.Store{Saved: plainPlace(p) + " ", Log: "up\nfl"}, false)
	})
}

func TestPromise95TheBounds(t *testing.T) {
	for long := range impl.MaxLog + 20 {
		log := strings.Repeat("x", long)
		wantStoreOk(t, impl.Store{Saved: "12 7 4", Log: log}, long <= impl.MaxLog)
		wantStoreOk(t, impl.Store{Saved: "12 7 4", Log: log, Sure: long}, long <= impl.MaxLog)
		wantStoreOk(t, impl.Store{Saved: "12 7 4", Log: log, Sure: long + 1}, false)
		wantStoreOk(t, impl.Store{Saved: "12 7 4", Log: log, Sure: -1}, false)
	}
}

func TestPromise95StoresThatAreNone(t *testing.T) {
	for _, s := range notStores() {
		wantStoreOk(t, s, false)
	}
}

func TestPromise96NewStoresOpenWithTheirPlace(t *testing.T) {
	eachPlace(func(p impl.Place) {
		s := storeOf(t, p)
		wantStoreOk(t, s, true)
		d, _ := impl.DeskNew(p)
		wantOpen(t, s, d)
		wantOpen(t, s, impl.Desk{Now: p})
	})
}

func TestPromise96PlacesThatAreNone(t *testing.T) {
	for _, p := range notPlaces() {
		s, ok := impl.StoreNew(p)
		wantStore(t, "StoreNew", p, s, ok, impl.Store{}, false)
	}
}

func TestPromise97OpenedAgainItIsTheSame(t *testing.T) {
	eachStore(func(s impl.Store) {
		d := openOf(t, s)
		wantSame(t, "StoreOpen", s, d, plainOpen(s))
		wantOpen(t, s, d)
		wantOpen(t, mendOf(t, s), d)
		synced, _ := impl.StoreSync(s)
		wantOpen(t, synced, d)
	})
}

func TestPromise97MoreDeedsThanLinesAtOnce(t *testing.T) {
	for many := range impl.MaxLog/5 + 1 {
		d := openOf(t, impl.Store{Saved: "12 7 4", Log: strings.Repeat("flip\n", many)})
		step := 7
		if many%2 == 1 {
			step = 5
		}
		if d.Now.It.Step != step || len(d.Past) != min(many, impl.MaxPast) {
			t.Fatalf("after %d deeds the desk is %v", many, d)
		}
	}
	ups := impl.Store{Saved: "60 1 60", Log: strings.Repeat("up\n", impl.MaxLog/3)}
	if d := openOf(t, ups); d.Now != (impl.Place{It: two, Many: 2}) {
		t.Fatalf("after all moves up the desk is %v", d)
	}
}

func TestPromise97DeedsThatCannotBeDoneAreLeftOut(t *testing.T) {
	s := impl.Store{Saved: "12 7 4", Log: "back\nmany 4\nopposite\nmany 13\nset 12 8\nmany 3\nset 12 7\nset 5 2\nset 99 99\nx\nback\n", Sure: 4}
	wantOpen(t, s, impl.Desk{Now: impl.Place{It: impl.Turn{Size: 5, Step: 2}, Many: 3}, Past: []impl.Place{quartet, {It: fifths, Many: 3}}})
}

func TestPromise97StoresThatAreNone(t *testing.T) {
	for _, s := range notStores() {
		d, ok := impl.StoreOpen(s)
		wantDesk(t, "StoreOpen", s, d, ok, impl.Desk{}, false)
	}
}

func TestPromise98WhatIsActedIsDone(t *testing.T) {
	eachStore(func(s impl.Store) {
		deeds := append(someDeeds(), impl.Deed{Kind: 7}, impl.Deed{Kind: impl.DkUp, A: 1})
		before := plainOpen(s)
		_, read := plainReadJournal(s.Log)
		for _, deed := range deeds {
			after, done := plainDo(before, deed)
			log := s.Log + textsByDeed()[deed] + "\n"
			if !done || read < len(s.Log) || len(log) > impl.MaxLog {
				wantActed(t, s, deed, s, false)
				continue
			}
			want := impl.Store{Saved: s.Saved, Log: log, Sure: s.Sure}
			wantActed(t, s, deed, want, true)
			wantOpen(t, want, after)
			wantDone(t, openOf(t, s), deed, openOf(t, want), true)
		}
	})
}

func TestPromise98TheLogHasNoMoreThanItsRoom(t *testing.T) {
	many := impl.Deed{Kind: impl.DkMany, A: 7}
	for room := range 20 {
		// The log is as long as it has to be, with lines of seven bytes, which cannot be done, and of five.
		log := strings.Repeat("many 0\n", 2*room%5)
		log = strings.Repeat("flip\n", (impl.MaxLog-room-len(log))/5) + log
		s := impl.Store{Saved: "60 7 60", Log: log, Sure: 9}
		if len(log) != impl.MaxLog-room {
			t.Fatalf("the log has %d bytes, want %d", len(log), impl.MaxLog-room)
		}
		for line, deed := range map[string]impl.Deed{"up\n": {Kind: impl.DkUp}, "many 7\n": many, "opposite\n": {Kind: impl.DkOpposite}, "set 12 7\n": {Kind: impl.DkSet, A: 12, B: 7}, "set 60 59\n": {Kind: impl.DkSet, A: 60, B: 59}} {
			if len(line) <= room {
				wantActed(t, s, deed, impl.Store{Saved: s.Saved, Log: log + line, Sure: 9}, true)
			} else {
				wantActed(t, s, deed, s, false)
			}
		}
	}
}

func TestPromise98TornLogs(t *testing.T) {
	for _, end := range []string{"u", "up", "\n", " ", "x\n", "flip", "many 03\n", "up \n", "up\r\n", "what\nup\n"} {
		s := impl.Store{Saved: "12 7 4", Log: "many 3\nup\n" + end, Sure: 7}
		wantActed(t, s, impl.Deed{Kind: impl.DkFlip}, s, false)
		wantActed(t, mendOf(t, s), impl.Deed{Kind: impl.DkFlip}, impl.Store{Saved: "12 7 4", Log: "many 3\nup\nflip\n", Sure: 7}, true)
	}
}

func TestPromise98DeedsThatCannotBeDone(t *testing.T) {
	s := impl.Store{Saved: "12 7 4", Log: "many 3\nup\n", Sure: 7}
	for _, deed := range strangeDeeds() {
		wantActed(t, s, deed, s, false)
	}
	empty := impl.Store{Saved: "12 7 4"}
	for _, deed := range []impl.Deed{{}, {Kind: impl.DkBack}, {Kind: impl.DkOpposite}, {Kind: impl.DkMany, A: 4}, {Kind: impl.DkMany, A: 13}, {Kind: impl.DkMany}, {Kind: impl.DkSet, A: 12, B: 7}, {Kind: impl.DkSet, A: 12, B: 8}} {
		wantActed(t, empty, deed, empty, false)
	}
}

func TestPromise98StoresThatAreNone(t *testing.T) {
	for _, s := range notStores() {
		for _, deed := range []impl.Deed{{Kind: impl.DkFlip}, {Kind: impl.DkMany, A: 2}, {}, {Kind: 7}} {
			wantActed(t, s, deed, impl.Store{}, false)
		}
	}
}

func TestPromise99WhatIsSureCannotBeLost(t *testing.T) {
	eachStore(func(s impl.Store) {
		synced := impl.Store{Saved: s.Saved, Log: s.Log, Sure: len(s.Log)}
		wantSynced(t, s, synced)
		wantSynced(t, synced, synced)
		wantCrashed(t, synced, len(s.Log), synced, true)
		for left := -1; left < len(s.Log); left++ {
			wantCrashed(t, synced, left, impl.Store{}, false)
		}
		wantCrashed(t, synced, len(s.Log)+1, impl.Store{}, false)
	})
}

func TestPromise99StoresThatAreNone(t *testing.T) {
	for _, s := range notStores() {
		got, ok := impl.StoreSync(s)
		wantStore(t, "StoreSync", s, got, ok, impl.Store{}, false)
	}
}

func TestPromise100SavedIsSaved(t *testing.T) {
	eachStore(func(s impl.Store) {
		saved := impl.Store{Saved: plainPlace(plainOpen(s).Now)}
		wantSaved(t, s, saved)
		wantSaved(t, saved, saved)
		wantOpen(t, saved, impl.Desk{Now: openOf(t, s).Now})
		wantCrashed(t, saved, 0, saved, true)
		wantCrashed(t, saved, -1, impl.Store{}, false)
		wantCrashed(t, saved, 1, impl.Store{}, false)
	})
}

func TestPromise100PlacesOfBeforeAreNotSaved(t *testing.T) {
	s := impl.Store{Saved: "12 7 4", Log: "many 3\nflip\n", Sure: 7}
	saved := impl.Store{Saved: "12 5 3"}
	wantSaved(t, s, saved)
	wantActed(t, saved, impl.Deed{Kind: impl.DkBack}, saved, false)
	wantSaved(t, impl.Store{Saved: "12 7 4", Log: "many 3\nflip", Sure: 10}, impl.Store{Saved: "12 7 3"})
}

func TestPromise100StoresThatAreNone(t *testing.T) {
	for _, s := range notStores() {
		got, ok := impl.StoreSave(s)
		wantStore(t, "StoreSave", s, got, ok, impl.Store{}, false)
	}
}

func TestPromise101EachNumberOfBytesMayBeLeft(t *testing.T) {
	eachStore(func(s impl.Store) {
		for left := s.Sure; left <= len(s.Log); left++ {
			crash := crashOf(t, s, left)
			wantStoreOk(t, crash, true)
			wantCrashed(t, crash, left, crash, true)
			wantCrashed(t, crash, left+1, impl.Store{}, false)
		}
		for _, left := range []int{s.Sure - 1, -1, len(s.Log) + 1, math.MaxInt, math.MinInt} {
			wantCrashed(t, s, left, impl.Store{}, false)
		}
	})
}

func TestPromise101BrokenDownTwice(t *testing.T) {
	for _, log := range shortLogs() {
		for sure := range len(log) + 1 {
			s := impl.Store{Saved: "12 7 4", Log: log, Sure: sure}
			for left := sure; left <= len(log); left++ {
				for fewer := sure; fewer <= left; fewer++ {
					wantCrashed(t, crashOf(t, s, left), fewer, crashOf(t, s, fewer), true)
				}
			}
		}
	}
}

func TestPromise101StoresThatAreNone(t *testing.T) {
	for _, s := range notStores() {
		for _, left := range []int{0, 1, -1, s.Sure, len(s.Log), math.MaxInt, math.MinInt} {
			wantCrashed(t, s, left, impl.Store{}, false)
		}
	}
}

func TestPromise102WhatWasSureIsNeverLost(t *testing.T) {
	eachStore(func(s impl.Store) {
		all, _ := impl.ReadJournal(s.Log)
		sure, _ := impl.ReadJournal(s.Log[:s.Sure])
		eachLeft(t, s, func(crash impl.Store) {
			read, _ := impl.ReadJournal(crash.Log)
			if len(read) > len(all) || !slices.Equal(read, all[:len(read)]) || len(sure) > len(read) {
				t.Fatalf("of %#v %v are read, when %v is left", s, read, crash)
			}
			d := impl.Desk{Now: placesByText()[s.Saved]}
			want, _ := plainRun(d, read)
			wantOpen(t, crash, want)
			if len(read) <= impl.MaxLines {
				run, _ := impl.DeskRun(d, read)
				wantOpen(t, crash, run)
			}
		})
	})
}

func TestPromise102KnownBreakdowns(t *testing.T) {
	s := impl.Store{Saved: "12 7 4", Log: "many 3\nflip\nup\n", Sure: 7}
	for left, want := range map[int]string{7: "12 7 3", 8: "12 7 3", 11: "12 7 3", 12: "12 5 3", 13: "12 5 3", 14: "12 5 3", 15: "7 3 3"} {
		if d := openOf(t, crashOf(t, s, left)); plainPlace(d.Now) != want {
			t.Fatalf("with %d bytes left the desk is %v, want the place %s", left, d, want)
		}
	}
}

// actAll acts deeds at a store, one after the other, as far as they can be.
func actAll(t *testing.T, s impl.Store, list []impl.Deed) impl.Store {
	t.Helper()
	for _, deed := range list {
		next, ok := impl.StoreAct(s, deed)
		if !ok {
			wantStore(t, "StoreAct", s, next, ok, s, false)
		}
		s = next
	}
	return s
}

func TestPromise103ByTheStoreOrAtTheDesk(t *testing.T) {
	for p, list := range journeys(150, 60) {
		s := storeOf(t, p)
		want := impl.Desk{Now: p}
		for place, deed := range list {
			want, _ = impl.DeskDo(want, deed)
			next := actAll(t, s, []impl.Deed{deed})
			if place%3 == 1 {
				next, _ = impl.StoreSync(next)
			}
			s = next
			wantOpen(t, s, want)
		}
		plain, _ := plainRun(impl.Desk{Now: p}, list)
		wantOpen(t, s, plain)
	}
}

func TestPromise103SavedOnTheWay(t *testing.T) {
	for p, list := range journeys(150, 60) {
		s := storeOf(t, p)
		want := impl.Desk{Now: p}
		for place, deed := range list {
			// A save forgets the places of before, so none of them is put back behind it.
			if deed.Kind == impl.DkBack && len(openOf(t, s).Past) == 0 {
				continue
			}
			want, _ = impl.DeskDo(want, deed)
			s = actAll(t, s, []impl.Deed{deed})
			if place%4 == 1 {
				s, _ = impl.StoreSave(s)
			}
			if place%4 == 2 {
				s, _ = impl.StoreSync(s)
			}
			if d := openOf(t, s); d.Now != want.Now {
				t.Fatalf("saved on the way the place is %v, want %v", d.Now, want.Now)
			}
		}
	}
}

func TestPromise104InTheEndAllIsThereAgain(t *testing.T) {
	eachStore(func(s impl.Store) {
		all, _ := plainReadJournal(s.Log)
		eachLeft(t, s, func(crash impl.Store) {
			mended := mendOf(t, crash)
			read, _ := plainReadJournal(mended.Log)
			wantOpen(t, actAll(t, mended, all[len(read):]), openOf(t, s))
		})
	})
}

func TestPromise104DeedsOfTheStore(t *testing.T) {
	for p, list := range journeys(30, 30) {
		var done []impl.Deed
		s := storeOf(t, p)
		for place, deed := range list {
			next, ok := impl.StoreAct(s, deed)
			if ok {
				done = append(done, deed)
			}
			if place == len(list)/2 {
				next, _ = impl.StoreSync(next)
			}
			s = next
		}
		for left := s.Sure; left <= len(s.Log); left++ {
			mended := mendOf(t, crashOf(t, s, left))
			lost := done[strings.Count(mended.Log, "\n"):]
			wantStore(t, "what is acted again", mended, actAll(t, mended, lost), true, s, true)
		}
	}
}

func wantPlace(t *testing.T, p impl.Place, want bool) {
	t.Helper()
	if got := impl.PlaceOk(p); got != want {
		t.Fatalf("PlaceOk of %v is %v, want %v", p, got, want)
	}
}

func TestPromise105PlacesThereAre(t *testing.T) {
	for size := -1; size <= impl.MaxSize+2; size++ {
		for step := -1; step <= impl.MaxSize+2; step++ {
			for many := -1; many <= impl.MaxSize+2; many++ {
				p := impl.Place{It: impl.Turn{Size: size, Step: step}, Many: many}
				wantPlace(t, p, plainIsPlace(p))
			}
		}
	}
}

func TestPromise105OnePointAndAll(t *testing.T) {
	eachPlace(func(p impl.Place) {
		wantPlace(t, p, true)
		wantPlace(t, impl.Place{It: p.It, Many: 1}, true)
		wantPlace(t, impl.Place{It: p.It, Many: p.It.Size}, true)
		wantPlace(t, impl.Place{It: p.It, Many: 0}, false)
		wantPlace(t, impl.Place{It: p.It, Many: p.It.Size + 1}, false)
	})
}

func TestPromise105TheOtherWay(t *testing.T) {
	for _, turn := range allTurns() {
		for many := -2; many <= impl.MaxSize+2; many++ {
			wantPlace(t, impl.Place{It: impl.BackTurn(turn), Many: many}, impl.PlaceOk(impl.Place{It: turn, Many: many}))
		}
	}
}

func TestPromise105PlacesThatAreNone(t *testing.T) {
	for _, p := range notPlaces() {
		wantPlace(t, p, false)
	}
}

func TestPromise106WhateverIsDone(t *testing.T) {
	eachSomePlace(func(p impl.Place) {
		d := impl.Desk{Now: p, Past: []impl.Place{quartet}}
		for _, deed := range someDeeds() {
			want, ok := plainDo(d, deed)
			wantDone(t, d, deed, want, ok)
		}
	})
}

func TestPromise106AtAnyDesk(t *testing.T) {
	for _, d := range someDesks() {
		for _, deed := range append(someDeeds(), strangeDeeds()...) {
			want, ok := plainDo(d, deed)
			wantDone(t, d, deed, want, ok)
			wantSame(t, "the desk after it", deed, want, want)
		}
	}
}

func TestPromise106EachTurnAndEachNumberMayBeSet(t *testing.T) {
	for _, d := range []impl.Desk{{Now: quartet}, {Now: impl.Place{It: sevens, Many: 60}, Past: pasts()[6]}} {
		for a := -2; a <= impl.MaxSize+3; a++ {
			deed := impl.Deed{Kind: impl.DkMany, A: a}
			want, ok := plainDo(d, deed)
			wantDone(t, d, deed, want, ok)
			for b := -2; b <= impl.MaxSize+3; b++ {
				deed := impl.Deed{Kind: impl.DkSet, A: a, B: b}
				want, ok := plainDo(d, deed)
				wantDone(t, d, deed, want, ok)
			}
		}
	}
}

func TestPromise106WhatWasDoneCanBeUndone(t *testing.T) {
	back := impl.Deed{Kind: impl.DkBack}
	for _, d := range someDesks() {
		for _, deed := range someDeeds() {
			after, ok := impl.DeskDo(d, deed)
			if !ok || deed == back {
				continue
			}
			want := d
			if len(d.Past) == impl.MaxPast {
				want.Past = d.Past[1:]
			}
			wantDone(t, after, back, want, true)
		}
	}
}

func TestPromise106AgainItIsTheSamePlace(t *testing.T) {
	eachSomePlace(func(p impl.Place) {
		d := impl.Desk{Now: p}
		for _, deeds := range [][2]impl.Deed{
			{{Kind: impl.DkMove, Words: "L"}, {Kind: impl.DkUp}}, {{Kind: impl.DkMove, Words: "R"}, {Kind: impl.DkUp}},
			{{Kind: impl.DkFlip}, {Kind: impl.DkFlip}}, {{Kind: impl.DkOpposite}, {Kind: impl.DkOpposite}},
		} {
			after, ok := impl.DeskDo(d, deeds[0])
			if ok {
				wantDone(t, after, deeds[1], impl.Desk{Now: p, Past: []impl.Place{p, after.Now}}, true)
			} else {
				wantSame(t, "the desk when it cannot be done", deeds[0], after, d)
			}
		}
	})
}

func TestPromise106PlacesOfBeforeAreForgotten(t *testing.T) {
	d := impl.Desk{Now: impl.Place{It: golden, Many: 1}}
	var all []impl.Place
	for many := 2; many <= 3*impl.MaxPast; many++ {
		all = append(all, d.Now)
		deed := impl.Deed{Kind: impl.DkMany, A: many}
		want := impl.Desk{Now: impl.Place{It: golden, Many: many}, Past: all[max(0, len(all)-impl.MaxPast):]}
		wantDone(t, d, deed, want, true)
		d = doneAt(t, d, deed)
	}
	for range impl.MaxPast {
		want := impl.Desk{Now: all[len(all)-1], Past: d.Past[:len(d.Past)-1]}
		wantDone(t, d, impl.Deed{Kind: impl.DkBack}, want, true)
		d, all = want, all[:len(all)-1]
	}
	wantNotDone(t, d, impl.Deed{Kind: impl.DkBack})
}

func TestPromise106KnownDeeds(t *testing.T) {
	for _, row := range []struct {
		from string
		deed impl.Deed
		to   string
	}{
		{"12 7 4", impl.Deed{Kind: impl.DkMove, Words: "L"}, "19 11 4"}, {"12 7 4", impl.Deed{Kind: impl.DkMove, Words: "R"}, "17 10 4"}, {"12 7 4", impl.Deed{Kind: impl.DkUp}, "7 4 4"}, {"12 7 12", impl.Deed{Kind: impl.DkUp}, "7 4 7"}, {"12 7 4", impl.Deed{Kind: impl.DkFlip}, "12 5 4"}, {"12 7 4", impl.Deed{Kind: impl.DkOpposite}, ""},
		{"5 2 5", impl.Deed{Kind: impl.DkOpposite}, "5 3 5"}, {"12 7 12", impl.Deed{Kind: impl.DkSet, A: 5, B: 2}, "5 2 5"}, {"12 7 5", impl.Deed{Kind: impl.DkSet, A: 5, B: 2}, "5 2 5"}, {"12 7 4", impl.Deed{Kind: impl.DkSet, A: 5, B: 2}, "5 2 4"}, {"5 2 5", impl.Deed{Kind: impl.DkSet, A: 12, B: 7}, "12 7 5"}, {"60 7 60", impl.Deed{Kind: impl.DkSet, A: 2, B: 1}, "2 1 2"},
		{"12 7 4", impl.Deed{Kind: impl.DkSet, A: 12, B: 7}, ""}, {"12 7 4", impl.Deed{Kind: impl.DkSet, A: 12, B: 8}, ""}, {"12 7 4", impl.Deed{}, ""}, {"12 7 4", impl.Deed{Kind: impl.DkMany, A: 12}, "12 7 12"}, {"12 7 4", impl.Deed{Kind: impl.DkMany, A: 1}, "12 7 1"}, {"12 7 4", impl.Deed{Kind: impl.DkMany, A: 13}, ""}, {"12 7 4", impl.Deed{Kind: impl.DkMany}, ""}, {"12 7 4", impl.Deed{Kind: impl.DkMany, A: 4}, ""},
		{"2 1 2", impl.Deed{Kind: impl.DkUp}, ""}, {"2 1 1", impl.Deed{Kind: impl.DkUp}, ""}, {"2 1 1", impl.Deed{Kind: impl.DkFlip}, ""}, {"2 1 1", impl.Deed{Kind: impl.DkOpposite}, ""}, {"2 1 2", impl.Deed{Kind: impl.DkMove, Words: "L"}, "3 1 2"}, {"2 1 2", impl.Deed{Kind: impl.DkMove, Words: "R"}, "3 2 2"}, {"3 1 3", impl.Deed{Kind: impl.DkUp}, "2 1 2"},
		{"60 1 60", impl.Deed{Kind: impl.DkMove, Words: "L"}, ""}, {"60 1 60", impl.Deed{Kind: impl.DkMove, Words: "R"}, ""}, {"60 59 60", impl.Deed{Kind: impl.DkUp}, "59 58 59"}, {"59 1 7", impl.Deed{Kind: impl.DkMove, Words: "L"}, "60 1 7"}, {"59 58 59", impl.Deed{Kind: impl.DkMove, Words: "R"}, "60 59 59"}, {"59 1 7", impl.Deed{Kind: impl.DkMove, Words: "R"}, ""}, {"55 34 3", impl.Deed{Kind: impl.DkMove, Words: "L"}, ""}, {"12 7 4", impl.Deed{Kind: impl.DkBack}, ""},
	} {
		d := impl.Desk{Now: placesByText()[row.from]}
		if row.to == "" {
			wantNotDone(t, d, row.deed)
			continue
		}
		wantDone(t, d, row.deed, impl.Desk{Now: placesByText()[row.to], Past: []impl.Place{d.Now}}, true)
	}
}

func TestPromise106ThePlaceOfBeforeMayBeTheSame(t *testing.T) {
	d := impl.Desk{Now: quartet, Past: []impl.Place{{It: golden, Many: 55}, quartet}}
	wantDone(t, d, impl.Deed{Kind: impl.DkBack}, impl.Desk{Now: quartet, Past: d.Past[:1]}, true)
}

func TestPromise106WhatCannotBeDoneAnywhere(t *testing.T) {
	for _, d := range someDesks() {
		for _, deed := range strangeDeeds() {
			wantNotDone(t, d, deed)
		}
	}
}

func TestPromise106DesksThatAreNone(t *testing.T) {
	for _, d := range notDesks() {
		for _, deed := range append(someDeeds(), impl.Deed{Kind: 7}, impl.Deed{Kind: impl.DkUp, A: 1}) {
			wantDone(t, d, deed, impl.Desk{}, false)
		}
	}
}

// roomy is a desk whose places of before have room behind them, which has other places.
func roomy(many int) (impl.Desk, []impl.Place) {
	d := dice(many)
	var whole []impl.Place
	for range impl.MaxPast + 4 {
		whole = append(whole, d.place())
	}
	return impl.Desk{Now: quartet, Past: whole[:many]}, whole
}

// wantOwnMemory checks that a desk that a call returns shares no memory with the one that was given, nor writes to it.
func wantOwnMemory(t *testing.T, what string, call func(d impl.Desk) impl.Desk) {
	t.Helper()
	for many := range impl.MaxPast + 1 {
		d, whole := roomy(many)
		before := slices.Clone(whole)
		got := call(d)
		past := slices.Clone(got.Past)
		if !slices.Equal(whole, before) {
			t.Fatalf("%s writes to the places of before", what)
		}
		for place := range whole {
			whole[place] = impl.Place{}
		}
		if !slices.Equal(got.Past, past) {
			t.Fatalf("%s returns places of before that were given", what)
		}
		copy(whole, before)
		room := got.Past[:cap(got.Past)]
		for place := range room {
			room[place] = impl.Place{}
		}
		if !slices.Equal(whole, before) {
			t.Fatalf("%s returns room that was given", what)
		}
	}
}

func TestPromise106ResultsAreMemoryOfTheirOwn(t *testing.T) {
	for _, deed := range append(someDeeds(), impl.Deed{Kind: 7}, impl.Deed{Kind: impl.DkUp, A: 1}) {
		wantOwnMemory(t, fmt.Sprintf("DeskDo of %v", deed), func(d impl.Desk) impl.Desk {
			after, _ := impl.DeskDo(d, deed)
			return after
		})
	}
	for _, list := range [][]impl.Deed{nil, {{}}, {{Kind: impl.DkBack}}, {{Kind: impl.DkFlip}, {Kind: impl.DkBack}, {Kind: impl.DkUp}}} {
		wantOwnMemory(t, fmt.Sprintf("DeskRun of %v", list), func(d impl.Desk) impl.Desk {
			after, _ := impl.DeskRun(d, list)
			return after
		})
	}
	for _, lines := range [][]string{nil, {""}, {"place"}, {"point 3"}, {"back"}, {"flip", "back", "up"}, {"opposite"}} {
		wantOwnMemory(t, fmt.Sprintf("DeskSay of %q", lines), func(d impl.Desk) impl.Desk {
			after, _ := impl.DeskSay(d, lines)
			return after
		})
	}
	for _, line := range []string{"", "place", "point 3", "back", "flip", "opposite", "many 3"} {
		wantOwnMemory(t, fmt.Sprintf("DeskLine of %q", line), func(d impl.Desk) impl.Desk {
			after, _ := impl.DeskLine(d, line)
			return after
		})
	}
}

func TestPromise107MendedTheLogIsReadWhole(t *testing.T) {
	eachStore(func(s impl.Store) {
		mended := mendOf(t, s)
		wantStoreOk(t, mended, true)
		deeds, read := impl.ReadJournal(mended.Log)
		if read != len(mended.Log) || plainJournal(deeds) != mended.Log {
			t.Fatalf("of the mended log of %#v %d bytes are read", mended, read)
		}
		wantMended(t, mended, mended)
	})
}

func TestPromise107MendedItCanBeActedAt(t *testing.T) {
	eachStore(func(s impl.Store) {
		mended := mendOf(t, s)
		d := openOf(t, mended)
		many := 1
		if d.Now.Many == 1 {
			many = 2
		}
		log := mended.Log + fmt.Sprintf("many %d\n", many)
		want := impl.Store{Saved: s.Saved, Log: log, Sure: mended.Sure}
		if len(log) > impl.MaxLog {
			want = mended
		}
		wantActed(t, mended, impl.Deed{Kind: impl.DkMany, A: many}, want, len(log) <= impl.MaxLog)
	})
}

func TestPromise107KnownLogs(t *testing.T) {
	for log, want := range map[string]string{"": "", "up": "", "up\n": "up\n", "up\nfl": "up\n", "up\nflip": "up\n", "up\nflip\n": "up\nflip\n", "up\n\nup\n": "up\n", "x\nup\n": "", "up\nup \n": "up\n", "many 0\nset 99 99\nback\n": "many 0\nset 99 99\nback\n"} {
		for sure := range len(log) + 1 {
			wantMended(t, impl.Store{Saved: "12 7 4", Log: log, Sure: sure}, impl.Store{Saved: "12 7 4", Log: want, Sure: min(sure, len(want))})
		}
	}
}

func TestPromise107StoresThatAreNone(t *testing.T) {
	for _, s := range notStores() {
		got, ok := impl.StoreMend(s)
		wantStore(t, "StoreMend", s, got, ok, impl.Store{}, false)
	}
}

func wantDeskOk(t *testing.T, d impl.Desk, want bool) {
	t.Helper()
	if got := impl.DeskOk(d); got != want {
		t.Fatalf("DeskOk of %v is %v, want %v", d, got, want)
	}
}

func TestPromise108DesksCanForget(t *testing.T) {
	for _, d := range someDesks() {
		wantDeskOk(t, d, true)
		wantDeskOk(t, impl.Desk{Now: d.Now}, true)
		for many := range len(d.Past) {
			wantDeskOk(t, impl.Desk{Now: d.Now, Past: d.Past[:many]}, true)
			wantDeskOk(t, impl.Desk{Now: d.Past[many], Past: d.Past[many:]}, true)
		}
	}
}

func TestPromise108AsManyPlacesOfBeforeAsMayBe(t *testing.T) {
	for many := range 3 * impl.MaxPast {
		wantDeskOk(t, impl.Desk{Now: quartet, Past: slices.Repeat([]impl.Place{quartet}, many)}, many <= impl.MaxPast)
	}
}

func TestPromise108DesksThatAreNone(t *testing.T) {
	for _, d := range notDesks() {
		wantDeskOk(t, d, false)
	}
	for many := 1; many <= impl.MaxPast; many++ {
		for place := range many {
			past := slices.Repeat([]impl.Place{quartet}, many)
			past[place].Many = 0
			wantDeskOk(t, impl.Desk{Now: quartet, Past: past}, false)
		}
	}
}

func TestPromise109NewDesksHaveOnePlace(t *testing.T) {
	eachPlace(func(p impl.Place) {
		d, ok := impl.DeskNew(p)
		wantDesk(t, "DeskNew", p, d, ok, impl.Desk{Now: p}, true)
		wantDeskOk(t, d, true)
	})
}

func TestPromise109PlacesThatAreNone(t *testing.T) {
	for _, p := range notPlaces() {
		d, ok := impl.DeskNew(p)
		wantDesk(t, "DeskNew", p, d, ok, impl.Desk{}, false)
	}
}

func TestPromise110TextsOfDeedsAreRead(t *testing.T) {
	for deed, text := range textsByDeed() {
		wantDeedText(t, deed, text)
		wantDeedRead(t, text, deed, true)
	}
}

func TestPromise110KnownTexts(t *testing.T) {
	for text, deed := range map[string]impl.Deed{
		"set 0 0": {}, "set 5 2": {Kind: impl.DkSet, A: 5, B: 2}, "set 99 99": {Kind: impl.DkSet, A: 99, B: 99}, "set 0 99": {Kind: impl.DkSet, B: 99}, "many 0": {Kind: impl.DkMany}, "many 99": {Kind: impl.DkMany, A: 99}, "many 10": {Kind: impl.DkMany, A: 10},
		"move L": {Kind: impl.DkMove, Words: "L"}, "move R": {Kind: impl.DkMove, Words: "R"}, "up": {Kind: impl.DkUp}, "flip": {Kind: impl.DkFlip}, "opposite": {Kind: impl.DkOpposite}, "back": {Kind: impl.DkBack},
	} {
		wantDeedText(t, deed, text)
		wantDeedRead(t, text, deed, true)
	}
}

func TestPromise110NumbersOfEachKind(t *testing.T) {
	for kind := -1; kind <= 8; kind++ {
		for a := -2; a <= 102; a++ {
			for b := -2; b <= 102; b++ {
				for _, words := range []string{"", "L"} {
					deed := impl.Deed{Kind: kind, A: a, B: b, Words: words}
					wantDeedText(t, deed, textsByDeed()[deed])
				}
			}
		}
	}
}

func TestPromise110DeedsWithoutText(t *testing.T) {
	for _, deed := range strangeDeeds() {
		wantDeedText(t, deed, "")
	}
}

// wantDeedAsListed checks that a text is read just if it is that of a deed.
func wantDeedAsListed(t *testing.T, text string) {
	t.Helper()
	deed, ok := deedsByText()[text]
	wantDeedRead(t, text, deed, ok)
	if got, read := impl.ReadDeed(text); read {
		wantDeedText(t, got, text)
	}
}

func TestPromise111ReadTextsAreCanonical(t *testing.T) {
	for _, text := range []string{"set 5 2", "set 60 59", "set 0 0", "many 3", "many 10", "many 0", "move L", "move R", "up", "flip", "opposite", "back"} {
		wantDeedAsListed(t, text)
		for _, changed := range withSigns(text) {
			wantDeedAsListed(t, changed)
		}
	}
	for _, numbers := range wordsWith(" 019-", 5) {
		for _, word := range []string{"set", "many", "move", "up", "set ", "many ", "move ", "back ", ""} {
			wantDeedAsListed(t, word+numbers)
		}
	}
	for a := range 120 {
		wantDeedAsListed(t, fmt.Sprintf("many %d", a))
		wantDeedAsListed(t, fmt.Sprintf("many %03d", a))
		wantDeedAsListed(t, fmt.Sprintf("many -%d", a))
		for b := range 120 {
			wantDeedAsListed(t, fmt.Sprintf("set %d %d", a, b))
		}
	}
}

func TestPromise111ASpaceBehindOrAhead(t *testing.T) {
	for text := range deedsByText() {
		for _, changed := range []string{text + " ", " " + text, text + "\n", text + " 0", text + "x"} {
			wantDeedRead(t, changed, impl.Deed{}, false)
		}
		if strings.Contains(text, " ") {
			wantDeedRead(t, strings.Replace(text, " ", "  ", 1), impl.Deed{}, false)
		}
	}
}

func TestPromise111OtherTexts(t *testing.T) {
	for _, text := range notLines() {
		wantDeedRead(t, text, impl.Deed{}, false)
	}
	for _, text := range append(plainQuestions(), "point 3", "time 3", "digits 3", "visits 3", "returns 3") {
		wantDeedRead(t, text, impl.Deed{}, false)
	}
	for _, number := range []string{"100", "101", "256", "1000000", "4294967297", "18446744073709551617", "9223372036854775808"} {
		wantDeedRead(t, "many "+number, impl.Deed{}, false)
		wantDeedRead(t, "set "+number+" 1", impl.Deed{}, false)
		wantDeedRead(t, "set 5 "+number, impl.Deed{}, false)
	}
}

func TestPromise112JournalsAreRead(t *testing.T) {
	lists := [][]impl.Deed{nil, {}, {{}}, someDeeds(), slices.Repeat(someDeeds(), 100)}
	for _, list := range journeys(200, 60) {
		lists = append(lists, list)
	}
	for _, list := range lists {
		if !slices.ContainsFunc(list, func(a impl.Deed) bool { return textsByDeed()[a] == "" }) {
			wantJournal(t, list, plainJournal(list))
			wantJournalRead(t, impl.JournalText(list), list, len(plainJournal(list)))
		}
	}
}

func wantJournal(t *testing.T, list []impl.Deed, want string) {
	t.Helper()
	if got := impl.JournalText(list); got != want {
		t.Fatalf("JournalText of %v is %q, want %q", list, got, want)
	}
}

func TestPromise112KnownJournals(t *testing.T) {
	wantJournal(t, nil, "")
	wantJournal(t, []impl.Deed{{}}, "set 0 0\n")
	list := []impl.Deed{{Kind: impl.DkMany, A: 3}, {Kind: impl.DkUp}, {Kind: impl.DkSet, A: 5, B: 2}, {Kind: impl.DkMove, Words: "R"}, {Kind: impl.DkOpposite}, {Kind: impl.DkFlip}, {Kind: impl.DkBack}}
	text := "many 3\nup\nset 5 2\nmove R\nopposite\nflip\nback\n"
	wantJournal(t, list, text)
	wantJournalRead(t, text, list, len(text))
}

func TestPromise112DeedsWithoutText(t *testing.T) {
	for _, deed := range strangeDeeds() {
		up := impl.Deed{Kind: impl.DkUp}
		wantJournal(t, []impl.Deed{deed}, "")
		wantJournal(t, []impl.Deed{deed, up}, "")
		wantJournal(t, []impl.Deed{up, deed}, "")
		wantJournal(t, []impl.Deed{up, deed, up}, "")
	}
}

// wantPlainLine checks a line against walked points, and the desk behind it.
func wantPlainLine(t *testing.T, d impl.Desk, line string) {
	t.Helper()
	want, answer := plainLine(d, line)
	got, told := impl.DeskLine(d, line)
	if told != answer {
		t.Fatalf("the answer to %q at %v is %q, want %q", line, d, told, answer)
	}
	wantSame(t, "DeskLine", []any{d, line}, got, want)
}

func TestPromise113EachQuestion(t *testing.T) {
	eachPlace(func(p impl.Place) {
		for _, line := range plainQuestions() {
			wantPlainLine(t, impl.Desk{Now: p}, line)
		}
	})
}

func TestPromise113EachQuestionWithANumber(t *testing.T) {
	eachSomePlace(func(p impl.Place) {
		for _, word := range numberWords() {
			for number := range p.It.Size + 3 {
				wantPlainLine(t, impl.Desk{Now: p}, word+" "+strconv.Itoa(number))
			}
			for _, number := range []string{"99", "100", "1000", "12345", "100000", "999999", "1000000", "9999999", "01", "00", "-1"} {
				wantPlainLine(t, impl.Desk{Now: p}, word+" "+number)
			}
		}
	})
}

func TestPromise113DeedsAreLines(t *testing.T) {
	for _, d := range someDesks() {
		for _, deed := range someDeeds() {
			wantPlainLine(t, d, textsByDeed()[deed])
		}
	}
	for text := range deedsByText() {
		wantPlainLine(t, impl.Desk{Now: quartet, Past: pasts()[6]}, text)
	}
}

func TestPromise113OtherLines(t *testing.T) {
	for _, d := range []impl.Desk{{Now: quartet}, {Now: impl.Place{It: two, Many: 2}, Past: pasts()[6]}} {
		for _, line := range notLines() {
			wantAnswer(t, d, line, "what")
		}
	}
	for _, d := range someDesks() {
		wantAnswer(t, d, "", "what")
	}
	for sign := range 256 {
		text := string([]byte{byte(sign)})
		wantAnswer(t, impl.Desk{Now: quartet}, text, "what")
		wantAnswer(t, impl.Desk{Now: quartet}, "place"+text, "what")
		if sign < '0' || sign > '9' {
			wantAnswer(t, impl.Desk{Now: quartet}, "point "+text, "what")
			wantAnswer(t, impl.Desk{Now: quartet}, "point 1"+text, "what")
		}
	}
}

func TestPromise113KnownAnswers(t *testing.T) {
	for _, row := range [][]string{
		{"12 7 4", "place", "12 7 4", "gaps", "2,5,2,3", "kinds", "2,3,5", "order", "0,2,1,3", "records", "1,2,7", "quotients", "1,1,2,2", "basis", "1,2,5", "scales", "2,3,5,7,12", "moves", "R1L2R1", "code", "010101101011", "saw", "8", "far", "12", "scale", "no"},
		{"12 5 4", "saw", "-8", "records", "1,3,5", "moves", "L1R2L1"},
		{"2 1 1", "place", "2 1 1", "gaps", "2", "kinds", "2", "order", "0", "records", "1", "quotients", "2", "basis", "1", "scales", "2", "moves", ".", "code", "01", "saw", "0", "far", "1", "scale", "no", "point 0", "0", "point 1", "1", "point 2", "none", "time 1", "1", "digits 0", "0", "digits 1", "1", "visits 0", "0", "visits 1", "1", "visits 2", "1", "visits 3", "none", "returns 0", "none", "returns 1", "2", "returns 2", "1", "returns 3", "none"},
		{"2 1 2", "gaps", "1,1", "kinds", "1", "order", "0,1", "far", "0", "scale", "yes", "visits 2", "2", "visits 1", "1"},
		{"12 7 4", "point 3", "9", "point 11", "5", "point 12", "none", "point 999999", "none", "point 1000000", "what", "time 9", "3", "time 12", "none", "digits 9", "0,2,1", "digits 12", "none", "visits 3", "2", "visits 12", "4", "visits 13", "none", "returns 4", "2,3,5", "returns 12", "1", "returns 13", "none", "returns 100000", "none"},
		{"60 1 60", "scale", "yes", "kinds", "1", "moves", "L58", "scales", commas(upTo(60)[1:]), "quotients", "60", "basis", "1"},
		{"60 59 1", "moves", "R58", "gaps", "60", "quotients", "1,59", "basis", "1"},
	} {
		d := impl.Desk{Now: placesByText()[row[0]]}
		for place := 1; place < len(row); place += 2 {
			wantAnswer(t, d, row[place], row[place+1])
		}
	}
}

func TestPromise113DesksThatAreNone(t *testing.T) {
	for _, d := range notDesks() {
		for _, line := range []string{"", "x", "place", "gaps", "point 1", "set 5 2", "back", "up", "many 1", "code"} {
			got, answer := impl.DeskLine(d, line)
			wantDesk(t, "DeskLine", []any{d, line}, got, answer == "", impl.Desk{}, true)
		}
	}
}
