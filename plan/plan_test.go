package plan_test

import (
	"slices"
	"testing"
	"time"

	"chimework/api"
	"chimework/plain"
	"chimework/plan"
	"chimework/rule"
)

// The numbers are written out, so that they are held against ones that the program did not work out.
const (
	lastTime   = 157785119
	mostEvents = 20
	mostTimes  = 200
	mostList   = 100
	longest    = 1000000
	dayLong    = 1440
	begin      = 66729600 // 2026-11-16 00:00, a Monday
)

// timeOf a text, `YYYY-MM-DD HH:MM`, by the library's calendar.
func timeOf(t *testing.T, text string) int {
	t.Helper()
	m, err := time.Parse("2006-01-02 15:04", text)
	if err != nil {
		t.Fatal(err)
	}
	return int(m.Unix()-time.Date(1900, 1, 1, 0, 0, 0, 0, time.UTC).Unix()) / 60
}

// zoneOf what it is ahead of all shifts, and then At and Ahead of each.
func zoneOf(ahead int, numbers ...int) api.Zone {
	z := api.Zone{Ahead: ahead}
	for pair := range slices.Chunk(numbers, 2) {
		z.Shifts = append(z.Shifts, api.Shift{At: pair[0], Ahead: pair[1]})
	}
	return z
}

// once makes an event that is at one time.
func once(start, length int) api.Event { return api.Event{Name: "a", Start: start, Length: length} }

// repeated makes an event that repeats by a rule, as it is written.
func repeated(t *testing.T, start, length int, text string) api.Event {
	t.Helper()
	r, err := rule.Parse(text)
	if err != nil {
		t.Fatalf("%q: %v", text, err)
	}
	return api.Event{Name: "a", Start: start, Length: length, Repeats: true, Rule: r}
}

// each makes events that are once: pairs of minutes behind begin, and of lengths.
func each(pairs ...int) []api.Event {
	var list []api.Event
	for pair := range slices.Chunk(pairs, 2) {
		list = append(list, once(begin+pair[0], pair[1]))
	}
	return list
}

// at makes what is taken of pairs of minutes behind begin.
func at(pairs ...int) []api.Busy {
	var list []api.Busy
	for pair := range slices.Chunk(pairs, 2) {
		list = append(list, api.Busy{From: begin + pair[0], To: begin + pair[1]})
	}
	return list
}

// later moves all that is taken by so many minutes.
func later(list []api.Busy, by int) []api.Busy {
	var moved []api.Busy
	for _, b := range list {
		moved = append(moved, api.Busy{From: b.From + by, To: b.To + by})
	}
	return moved
}

// pairs makes pairs of numbers.
func pairs(numbers ...int) [][2]int {
	var list [][2]int
	for pair := range slices.Chunk(numbers, 2) {
		list = append(list, [2]int(pair))
	}
	return list
}

// wantError asks for an error, or for nil where that is OK.
func wantError(t *testing.T, what string, err error, want api.Errno) {
	t.Helper()
	if plain.Told(err) != want || (err == nil) != (want == api.OK) {
		t.Fatalf("%s: got %v, want %v", what, err, want)
	}
}

func wantBusy(t *testing.T, z api.Zone, l []api.Event, from, to int, want []api.Busy) {
	t.Helper()
	got, err := plan.Busy(z, l, from, to)
	wantError(t, "Busy", err, api.OK)
	if !slices.Equal(got, want) {
		t.Fatalf("Busy(%v, %+v, %d, %d): got %v, want %v", z, l, from, to, got, want)
	}
}

func wantClashes(t *testing.T, z api.Zone, l []api.Event, from, to int, want [][2]int) {
	t.Helper()
	got, err := plan.Clashes(z, l, from, to)
	wantError(t, "Clashes", err, api.OK)
	if !slices.Equal(got, want) {
		t.Fatalf("Clashes(%v, %+v, %d, %d): got %v, want %v", z, l, from, to, got, want)
	}
}

func wantMeet(t *testing.T, zones []api.Zone, l [][]api.Event, from, to, length, want int) {
	t.Helper()
	got, err := plan.Meet(zones, l, from, to, length)
	wantError(t, "Meet", err, api.OK)
	if got != want {
		t.Fatalf("Meet(%v, %+v, %d, %d, %d): got %d, want %d", zones, l, from, to, length, got, want)
	}
}

func wantLoad(t *testing.T, l []api.Event, year, month int, want []int) {
	t.Helper()
	got, err := plan.Load(l, year, month)
	wantError(t, "Load", err, api.OK)
	if !slices.Equal(got, want) {
		t.Fatalf("Load(%+v, %d, %d): got %v, want %v", l, year, month, got, want)
	}
}

// wantNoMeet asks for an error, and 0 beside it.
func wantNoMeet(t *testing.T, zones []api.Zone, l [][]api.Event, from, to, length int, want api.Errno) {
	t.Helper()
	got, err := plan.Meet(zones, l, from, to, length)
	wantError(t, "Meet", err, want)
	if got != 0 {
		t.Fatalf("Meet: got %d beside its error", got)
	}
}

// wantNoLoad asks for an error, and nothing beside it.
func wantNoLoad(t *testing.T, l []api.Event, year, month int, want api.Errno) {
	t.Helper()
	got, err := plan.Load(l, year, month)
	wantError(t, "Load", err, want)
	if len(got) > 0 {
		t.Fatalf("Load: got %v beside its error", got)
	}
}

// wantRefused asks Busy and Clashes, and Meet of whatever length, for an error, and nothing beside it.
func wantRefused(t *testing.T, z api.Zone, l []api.Event, from, to int, want api.Errno) {
	t.Helper()
	taken, err := plan.Busy(z, l, from, to)
	wantError(t, "Busy", err, want)
	clashes, err := plan.Clashes(z, l, from, to)
	wantError(t, "Clashes", err, want)
	if len(taken) > 0 || len(clashes) > 0 {
		t.Fatalf("got %v and %v beside errors", taken, clashes)
	}
	for _, length := range []int{60, 0, -1, longest + 1} {
		wantNoMeet(t, []api.Zone{z}, [][]api.Event{l}, from, to, length, want)
	}
}

// A picture of events near begin: what they take, which of them clash, and how many of them are on the first days from begin on.
type picture struct {
	what    string
	events  []api.Event
	taken   []api.Busy
	clashes [][2]int
	load    []int
}

func pictures(t *testing.T) []picture {
	list := []picture{
		{"none", nil, nil, nil, nil},
		{"an empty list", []api.Event{}, nil, nil, nil},
		{"one", each(570, 90), at(570, 660), nil, []int{1}},
		{"two apart", each(570, 90, 700, 10), at(570, 660, 700, 710), nil, []int{2}},
		{"two, a minute between", each(570, 90, 661, 10), at(570, 660, 661, 671), nil, []int{2}},
		{"two touch", each(570, 90, 660, 10), at(570, 670), nil, []int{2}},
		{"two meet by a minute", each(570, 90, 659, 10), at(570, 669), pairs(0, 1), []int{2}},
		{"two meet", each(570, 90, 600, 90), at(570, 690), pairs(0, 1), []int{2}},
		{"one within another", each(570, 90, 600, 10), at(570, 660), pairs(0, 1), []int{2}},
		{"one minute within another", each(570, 90, 600, 1), at(570, 660), pairs(0, 1), []int{2}},
		{"the same", each(570, 90, 570, 90), at(570, 660), pairs(0, 1), []int{2}},
		{"the same begin", each(570, 90, 570, 30), at(570, 660), pairs(0, 1), []int{2}},
		{"the same end", each(570, 90, 630, 30), at(570, 660), pairs(0, 1), []int{2}},
		{"three of which some meet", each(570, 90, 600, 90, 680, 90), at(570, 770), pairs(0, 1, 1, 2), []int{3}},
		{"three of which the first and last meet", each(570, 90, 300, 10, 600, 90), at(300, 310, 570, 690), pairs(0, 2), []int{3}},
		{"three that all meet", each(570, 90, 600, 90, 650, 90), at(570, 740), pairs(0, 1, 0, 2, 1, 2), []int{3}},
		{"three, one that joins two", each(570, 30, 630, 30, 600, 30), at(570, 660), nil, []int{3}},
		{"four, a long one over three", each(100, 10, 50, 1000, 300, 10, 1049, 10), at(50, 1059), pairs(0, 1, 1, 2, 1, 3), []int{4}},
		{"no minute, alone", each(570, 0), nil, nil, []int{1}},
		{"no minute, twice the same", each(570, 0, 570, 0), nil, nil, []int{2}},
		{"no minute, within another", each(570, 90, 600, 0), at(570, 660), nil, []int{2}},
		{"no minute, at another's begin", each(570, 90, 570, 0), at(570, 660), nil, []int{2}},
		{"no minute, at another's end", each(570, 90, 660, 0), at(570, 660), nil, []int{2}},
		{"no minute, beside another", each(570, 90, 569, 0, 661, 0), at(570, 660), nil, []int{3}},
		{"no minute, between two that touch", each(570, 90, 660, 0, 660, 90), at(570, 750), nil, []int{3}},
		{"over a day's end", each(1400, 90, 1489, 1), at(1400, 1490), pairs(0, 1), []int{1, 1}},
		{"one that only its length brings to another", each(570, 5000, 4000, 10), at(570, 5570), pairs(0, 1), []int{1, 0, 1}},
	}
	return append(list, repeatedPictures(t)...)
}

// repeatedPictures are of events that are more than once.
func repeatedPictures(t *testing.T) []picture {
	daily := repeated(t, begin+570, 90, "daily count 4")
	long := repeated(t, begin+570, 1500, "daily count 3")
	touching := repeated(t, begin+570, 1440, "daily count 3")
	more := daily
	more.More = []int{begin + 600, begin + 570 + dayLong, begin + 3000}
	not := daily
	not.Not = []int{begin + 570, begin + 571, begin + 570 + 2*dayLong}
	changed := daily
	changed.Changes = []api.Change{{At: begin + 570, To: begin + 700 + dayLong}, {At: begin + 570 + dayLong}, {At: begin + 570 + 3*dayLong, To: begin + 10}}
	nothing := daily
	nothing.Changes = []api.Change{{At: begin + 570}, {At: begin + 570 + dayLong}, {At: begin + 570 + 2*dayLong}, {At: begin + 570 + 3*dayLong}}
	together := once(begin+570, 90)
	together.More = []int{begin + 3000, begin + 6000}
	together.Changes = []api.Change{{At: begin + 3000, To: begin + 570}, {At: begin + 6000, To: begin + 600}}
	four := at(570, 660, 2010, 2100, 3450, 3540, 4890, 4980)
	return []picture{
		{"daily", []api.Event{daily}, four, nil, []int{1, 1, 1, 1}},
		{"daily, met on the third day", append(each(3530, 20), daily), at(570, 660, 2010, 2100, 3450, 3550, 4890, 4980), pairs(0, 1), []int{1, 1, 2, 1}},
		{"daily, touched on the third day", append(each(3540, 20, 3440, 10), daily), at(570, 660, 2010, 2100, 3440, 3560, 4890, 4980), nil, []int{1, 1, 3, 1}},
		{"daily, thrice", []api.Event{daily, daily, daily}, four, pairs(0, 1, 0, 2, 1, 2), []int{3, 3, 3, 3}},
		{"its own Times meet", []api.Event{long}, at(570, 570+2*1440+1500), nil, []int{1, 1, 1}},
		{"its own Times touch", []api.Event{touching}, at(570, 570+3*1440), nil, []int{1, 1, 1}},
		{"its own Times meet, and another one", append(each(2000, 60), long), at(570, 570+2*1440+1500), pairs(0, 1), []int{1, 2, 1}},
		{"its own Times meet, and no other one", append(each(100, 60), long), at(100, 160, 570, 570+2*1440+1500), nil, []int{2, 1, 1}},
		{"more times", []api.Event{more}, at(570, 690, 2010, 2100, 3000, 3090, 3450, 3540, 4890, 4980), nil, []int{2, 1, 2, 1}},
		{"more times, one of which is met", append(each(3089, 5), more), at(570, 690, 2010, 2100, 3000, 3094, 3450, 3540, 4890, 4980), pairs(0, 1), []int{2, 1, 3, 1}},
		{"times that are not", []api.Event{not}, at(2010, 2100, 4890, 4980), nil, []int{0, 1, 0, 1}},
		{"where times are not, others may be", append(each(570, 90, 3450, 90), not), four, nil, []int{1, 1, 1, 1}},
		{"moved and called off", []api.Event{changed}, at(10, 100, 2140, 2230, 3450, 3540), nil, []int{1, 1, 1}},
		{"moved to another one, off, and away", append(each(2229, 10, 570, 90, 2010, 90, 99, 1), changed), at(10, 100, 570, 660, 2010, 2100, 2140, 2239, 3450, 3540), pairs(0, 4, 3, 4), []int{3, 3, 1}},
		{"all called off", append(each(570, 90), nothing), at(570, 660), nil, []int{1}},
		{"moved to where others of it are", []api.Event{together}, at(570, 690), nil, []int{3}},
	}
}

// reversed tells a picture from its end on.
func reversed(p picture) picture {
	p.events = slices.Clone(p.events)
	slices.Reverse(p.events)
	last := len(p.events) - 1
	var clashes [][2]int
	for _, c := range p.clashes {
		clashes = append(clashes, [2]int{last - c[1], last - c[0]})
	}
	slices.SortFunc(clashes, func(a, b [2]int) int { return slices.Compare(a[:], b[:]) })
	p.clashes = clashes
	return p
}

// zonesNear begin: each is ahead by the number beside it during all of the pictures.
func zonesNear() map[int]api.Zone {
	return map[int]api.Zone{
		0: zoneOf(0), 60: zoneOf(60), -300: zoneOf(-300), 345: zoneOf(345), 900: zoneOf(900), -900: zoneOf(-900),
		120: zoneOf(-60, begin-5000, 120, begin+20000, 0),
		-30: zoneOf(-30, begin+20000, 500),
		-1:  zoneOf(5, begin-20000, 900, begin-18000, -1),
	}
}

func TestPictures(t *testing.T) {
	for _, p := range pictures(t) {
		for _, p := range []picture{p, reversed(p)} {
			t.Run(p.what, func(t *testing.T) {
				for ahead, z := range zonesNear() {
					from, to := begin-ahead, begin+10*dayLong-ahead
					wantBusy(t, z, p.events, from, to, later(p.taken, -ahead))
					wantClashes(t, z, p.events, from, to, p.clashes)
					wantBusy(t, z, p.events, from-dayLong, from+longest-dayLong, later(p.taken, -ahead))
					wantClashes(t, z, p.events, from-dayLong, from+longest-dayLong, p.clashes)
				}
			})
		}
	}
}

// What is on one side of a shift and on the other, and in its gap.
func TestOverAShift(t *testing.T) {
	z := zoneOf(60, timeOf(t, "2026-03-29 01:00"), 120, timeOf(t, "2026-10-25 01:00"), 60)
	taken := func(texts ...string) []api.Busy {
		var list []api.Busy
		for pair := range slices.Chunk(texts, 2) {
			list = append(list, api.Busy{From: timeOf(t, pair[0]), To: timeOf(t, pair[1])})
		}
		return list
	}
	autumn := []api.Event{repeated(t, timeOf(t, "2026-10-24 01:30"), 60, "daily count 3"), once(timeOf(t, "2026-10-25 03:00"), 30), once(timeOf(t, "2026-10-25 02:29"), 30)}
	wantBusy(t, z, autumn, timeOf(t, "2026-10-20 00:00"), timeOf(t, "2026-10-30 00:00"),
		taken("2026-10-23 23:30", "2026-10-24 00:30", "2026-10-24 23:30", "2026-10-25 00:59", "2026-10-25 02:00", "2026-10-25 02:30", "2026-10-26 00:30", "2026-10-26 01:30"))
	wantClashes(t, z, autumn, timeOf(t, "2026-10-20 00:00"), timeOf(t, "2026-10-30 00:00"), pairs(0, 2))
	// What is in the gap takes nothing, and clashes with nothing.
	spring := []api.Event{repeated(t, timeOf(t, "2026-03-28 02:30"), 60, "daily count 3"), once(timeOf(t, "2026-03-29 02:30"), 60), once(timeOf(t, "2026-03-29 03:00"), 60), once(timeOf(t, "2026-03-29 01:30"), 31)}
	wantBusy(t, z, spring, timeOf(t, "2026-03-20 00:00"), timeOf(t, "2026-04-10 00:00"),
		taken("2026-03-28 01:30", "2026-03-28 02:30", "2026-03-29 00:30", "2026-03-29 02:00", "2026-03-30 00:30", "2026-03-30 01:30"))
	wantClashes(t, z, spring, timeOf(t, "2026-03-20 00:00"), timeOf(t, "2026-04-10 00:00"), pairs(2, 3))
}

// The numbers of errors and of bounds are those of the document.
func TestNumbers(t *testing.T) {
	for told, want := range map[api.Errno]int{api.ErrRange: 1, api.ErrSyntax: 2, api.ErrShape: 3, api.ErrFull: 4, api.ErrNone: 5, api.ErrClash: 7} {
		if int(told) != want {
			t.Errorf("%v: got %d, want %d", told, int(told), want)
		}
	}
	if api.MaxEvents != mostEvents || api.MaxCount != mostTimes || api.MaxSpan != longest || api.MaxList != mostList {
		t.Error("a bound is not that of the document")
	}
}
