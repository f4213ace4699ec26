package times_test

import (
	"math"
	"slices"
	"strings"
	"testing"
	"time"

	"chimework/api"
	"chimework/plain"
	"chimework/rule"
	"chimework/times"
)

// The numbers are written out, so that they are held against ones that the program did not work out.
const (
	lastTime  = 157785119
	mostSpan  = 1000000
	mostFull  = 200
	mostList  = 100
	mostNext  = 500000
	mostAhead = 900
)

// noTimes are none, up to the ends of int.
var noTimes = []int{
	math.MinInt, math.MinInt + 1, math.MinInt + mostAhead, math.MinInt + mostSpan, math.MinInt / 2, math.MinInt32, -lastTime, -mostSpan, -mostNext, -mostAhead, -2, -1, 0,
	lastTime + 1, lastTime + 2, lastTime + mostAhead, lastTime + mostSpan, math.MaxInt32, math.MaxInt / 2, math.MaxInt - mostSpan, math.MaxInt - mostNext, math.MaxInt - mostNext - 1, math.MaxInt - mostAhead, math.MaxInt - 1, math.MaxInt,
}

// timeOf a text, `YYYY-MM-DD HH:MM`, by the library's calendar.
func timeOf(t *testing.T, text string) int {
	t.Helper()
	m, err := time.Parse("2006-01-02 15:04", text)
	if err != nil {
		t.Fatal(err)
	}
	return int(m.Unix()-time.Date(1900, 1, 1, 0, 0, 0, 0, time.UTC).Unix()) / 60
}

// listOf texts: which, and when it is in the whole world, `>` between; commas between two of them.
func listOf(t *testing.T, length int, text string) []api.Time {
	t.Helper()
	var list []api.Time
	for _, words := range strings.Split(text, ",") {
		if words == "" {
			continue
		}
		which, from, _ := strings.Cut(words, ">")
		list = append(list, span(timeOf(t, which), timeOf(t, from), length))
	}
	return list
}

func span(which, from, length int) api.Time {
	return api.Time{Which: which, From: from, To: from + length}
}

// spans of so many times, each by so much above the one ahead, in a zone that is ahead of none.
func spans(first, by, many, length int) []api.Time {
	var list []api.Time
	for i := range many {
		list = append(list, span(first+i*by, first+i*by, length))
	}
	return list
}

// rising lists so many numbers, each by so much above the one ahead.
func rising(first, by, many int) []int {
	var list []int
	for i := range many {
		list = append(list, first+i*by)
	}
	return list
}

// zoneOf what it is ahead of all shifts, and then At and Ahead of each.
func zoneOf(ahead int, numbers ...int) api.Zone {
	z := api.Zone{Ahead: ahead}
	for pair := range slices.Chunk(numbers, 2) {
		z.Shifts = append(z.Shifts, api.Shift{At: pair[0], Ahead: pair[1]})
	}
	return z
}

// summers makes a zone that is an hour ahead, and two from spring to autumn.
func summers(t *testing.T) api.Zone {
	t.Helper()
	return zoneOf(60,
		timeOf(t, "2026-03-29 01:00"), 120, timeOf(t, "2026-10-25 01:00"), 60,
		timeOf(t, "2027-03-28 01:00"), 120, timeOf(t, "2027-10-31 01:00"), 60)
}

// once makes an event that is at one time.
func once(start, length int) api.Event { return api.Event{Name: "a", Start: start, Length: length} }

// repeated makes an event that repeats by a rule, as it is written.
func repeated(t *testing.T, start, length int, text string) api.Event {
	t.Helper()
	r, err := rule.Parse(text)
	if err != nil {
		t.Fatalf("%q: %v", text, err)
	}
	return api.Event{Name: "a", Start: start, Length: length, Repeats: true, Rule: r}
}

func wantBetween(t *testing.T, z api.Zone, e api.Event, from, to int, want []api.Time) {
	t.Helper()
	if got, err := times.Between(z, e, from, to); !slices.Equal(got, want) || err != nil {
		t.Errorf("Between(%v, %+v, %d, %d): got %v, %v, want %v", z, e, from, to, got, err, want)
	}
}

func wantNoBetween(t *testing.T, z api.Zone, e api.Event, from, to int, want api.Errno) {
	t.Helper()
	if got, err := times.Between(z, e, from, to); len(got) != 0 || plain.Told(err) != want {
		t.Errorf("Between(%v, %+v, %d, %d): got %v, %v, want none, %v", z, e, from, to, got, err, want)
	}
}

func wantNext(t *testing.T, z api.Zone, e api.Event, after int, want api.Time) {
	t.Helper()
	if got, err := times.Next(z, e, after); got != want || err != nil {
		t.Errorf("Next(%v, %+v, %d): got %v, %v, want %v", z, e, after, got, err, want)
	}
}

func wantNoNext(t *testing.T, z api.Zone, e api.Event, after int, want api.Errno) {
	t.Helper()
	if got, err := times.Next(z, e, after); got != (api.Time{}) || plain.Told(err) != want {
		t.Errorf("Next(%v, %+v, %d): got %v, %v, want none, %v", z, e, after, got, err, want)
	}
}

// nextOf Times that stand in order: the first that is above after, but not too far.
func nextOf(list []api.Time, after int) (api.Time, bool) {
	for _, each := range list {
		if each.From > after {
			return each, each.From <= after+mostNext
		}
	}
	return api.Time{}, false
}

// holdNext asks Next of an event all of whose Times near are in a list.
func holdNext(t *testing.T, z api.Zone, e api.Event, after int, all []api.Time) {
	t.Helper()
	if next, is := nextOf(all, after); is {
		wantNext(t, z, e, after, next)
	} else {
		wantNoNext(t, z, e, after, api.ErrNone)
	}
}

// holdBetween asks Between of an event all of whose Times of a stretch are in a list.
func holdBetween(t *testing.T, z api.Zone, e api.Event, from, to int, all []api.Time) {
	t.Helper()
	var want []api.Time
	for _, each := range all {
		if each.From >= from && each.From < to {
			want = append(want, each)
		}
	}
	wantAll(t, z, e, from, to, want)
	if len(want) > mostFull {
		wantNoBetween(t, z, e, from, to, api.ErrFull)
	} else {
		wantBetween(t, z, e, from, to, want)
	}
}

// hold both calls against all Times that an event has, near each of them and at its ends.
func hold(t *testing.T, z api.Zone, e api.Event, all []api.Time) {
	t.Helper()
	near := []int{1, 2, e.Start, lastTime - 1, lastTime}
	for _, each := range all {
		near = append(near, each.Which-1, each.Which, each.Which+1, each.From-1, each.From, each.From+1, each.To, each.From-mostNext-1, each.From-mostNext, each.From-mostSpan)
	}
	for _, n := range near {
		if n < 1 || n > lastTime {
			continue
		}
		holdNext(t, z, e, n, all)
		for _, long := range []int{0, 1, 2, 1440, 99999, mostSpan} {
			if n+long <= lastTime {
				holdBetween(t, z, e, n, n+long, all)
			}
		}
		if n > mostSpan {
			holdBetween(t, z, e, n-mostSpan, n, all)
		}
	}
}

func TestOnce(t *testing.T) {
	start := timeOf(t, "2026-11-16 09:30")
	october, december := timeOf(t, "2026-10-25 01:00"), timeOf(t, "2026-12-01 00:00")
	for _, c := range []struct {
		zone api.Zone
		from string
	}{
		{zoneOf(0), "2026-11-16 09:30"},
		{zoneOf(60), "2026-11-16 08:30"},
		{zoneOf(-300), "2026-11-16 14:30"},
		{zoneOf(345), "2026-11-16 03:45"},
		{zoneOf(900), "2026-11-15 18:30"},
		{zoneOf(-900), "2026-11-17 00:30"},
		{zoneOf(120, october, 60), "2026-11-16 08:30"},
		{zoneOf(120, december, 60), "2026-11-16 07:30"},
		{zoneOf(0, october, 120, december, -60), "2026-11-16 07:30"},
		{zoneOf(120, october, -300, december, 60), "2026-11-16 14:30"},
		{summers(t), "2026-11-16 08:30"},
	} {
		for _, length := range []int{0, 1, 90, 1440, 100000} {
			hold(t, c.zone, once(start, length), []api.Time{span(start, timeOf(t, c.from), length)})
		}
	}
}

// Two texts say when an event is there, and when in the whole world: on both sides of a shift.
func TestRepeated(t *testing.T) {
	for _, c := range []struct{ start, rule, want string }{
		{"2026-10-12 09:30", "weekly count 4", "2026-10-12 09:30>2026-10-12 07:30,2026-10-19 09:30>2026-10-19 07:30,2026-10-26 09:30>2026-10-26 08:30,2026-11-02 09:30>2026-11-02 08:30"},
		{"2026-10-24 23:30", "daily count 3", "2026-10-24 23:30>2026-10-24 21:30,2026-10-25 23:30>2026-10-25 22:30,2026-10-26 23:30>2026-10-26 22:30"},
		{"2026-10-24 00:30", "daily until 2026-10-26", "2026-10-24 00:30>2026-10-23 22:30,2026-10-25 00:30>2026-10-24 22:30,2026-10-26 00:30>2026-10-25 23:30"},
		{"2026-12-31 00:15", "monthly count 3 days -1", "2026-12-31 00:15>2026-12-30 23:15,2027-01-31 00:15>2027-01-30 23:15,2027-02-28 00:15>2027-02-27 23:15"},
		{"2026-06-30 12:00", "yearly count 2", "2026-06-30 12:00>2026-06-30 10:00,2027-06-30 12:00>2027-06-30 10:00"},
		{"2026-01-01 00:00", "monthly every 6 count 4", "2026-01-01 00:00>2025-12-31 23:00,2026-07-01 00:00>2026-06-30 22:00,2027-01-01 00:00>2026-12-31 23:00,2027-07-01 00:00>2027-06-30 22:00"},
		{"2026-11-16 09:30", "daily until 2026-11-15", ""},
	} {
		for _, length := range []int{0, 90, 2000} {
			hold(t, summers(t), repeated(t, timeOf(t, c.start), length, c.rule), listOf(t, length, c.want))
		}
	}
}

func TestMoreAndNot(t *testing.T) {
	start := timeOf(t, "2026-10-23 09:30")
	e := repeated(t, start, 45, "daily count 5")
	e.More = []int{timeOf(t, "2026-10-01 00:00"), start, timeOf(t, "2026-10-24 18:00"), timeOf(t, "2026-10-25 18:00"), timeOf(t, "2027-07-01 00:00")}
	e.Not = []int{timeOf(t, "2026-10-24 09:30"), timeOf(t, "2026-10-25 18:00"), timeOf(t, "2026-10-26 09:31")}
	hold(t, summers(t), e, listOf(t, 45, "2026-10-01 00:00>2026-09-30 22:00,2026-10-23 09:30>2026-10-23 07:30,2026-10-24 18:00>2026-10-24 16:00,2026-10-25 09:30>2026-10-25 08:30,2026-10-26 09:30>2026-10-26 08:30,2026-10-27 09:30>2026-10-27 08:30,2027-07-01 00:00>2027-06-30 22:00"))

	f := once(start, 45)
	f.More = e.More
	f.Not = append(e.Not, timeOf(t, "2027-07-01 00:00"))
	hold(t, summers(t), f, listOf(t, 45, "2026-10-01 00:00>2026-09-30 22:00,2026-10-23 09:30>2026-10-23 07:30,2026-10-24 18:00>2026-10-24 16:00"))
	f.Not = f.More
	hold(t, summers(t), f, nil)
}

func TestChanges(t *testing.T) {
	start := timeOf(t, "2026-10-23 09:30")
	change := func(at, to string) api.Change {
		c := api.Change{At: timeOf(t, at)}
		if to != "" {
			c.To = timeOf(t, to)
		}
		return c
	}
	for _, text := range []string{"daily count 7", "daily until 2026-10-29"} {
		e := repeated(t, start, 30, text)
		e.More = []int{timeOf(t, "2026-10-30 20:00")}
		e.Changes = []api.Change{
			change("2026-10-23 09:30", "2026-10-23 08:00"), // ahead, on its day
			change("2026-10-24 09:30", "2026-10-27 09:31"), // behind, past the shift and some others
			change("2026-10-25 09:30", ""),                 // called off
			change("2026-10-26 09:30", "2027-07-14 12:00"), // into another year
			change("2026-10-27 09:30", "2025-12-31 23:59"), // into another year, ahead of all
			change("2026-10-28 09:30", "2026-10-28 09:30"), // to where it was
			change("2026-10-30 20:00", "2026-10-24 02:00"), // one of More, past the shift
		}
		hold(t, summers(t), e, listOf(t, 30, "2026-10-27 09:30>2025-12-31 22:59,2026-10-23 09:30>2026-10-23 06:00,2026-10-30 20:00>2026-10-24 00:00,2026-10-24 09:30>2026-10-27 08:31,2026-10-28 09:30>2026-10-28 08:30,2026-10-29 09:30>2026-10-29 08:30,2026-10-26 09:30>2027-07-14 10:00"))
	}
	// What is once is moved, and called off.
	e := once(start, 30)
	e.Changes = []api.Change{change("2026-10-23 09:30", "2026-11-23 09:30")}
	hold(t, summers(t), e, listOf(t, 30, "2026-10-23 09:30>2026-11-23 08:30"))
	e.Changes = []api.Change{change("2026-10-23 09:30", "")}
	hold(t, summers(t), e, nil)
}

func TestErrorsByNumber(t *testing.T) {
	_, full := times.Between(zoneOf(0), repeated(t, 1, 0, "daily"), 1, mostSpan)
	_, none := times.Next(zoneOf(0), once(1, 0), 1)
	_, low := times.Next(zoneOf(0), once(1, 0), 0)
	_, high := times.Between(zoneOf(0), once(1, 0), 1, lastTime+1)
	for _, c := range []struct {
		told error
		want int
	}{{full, 4}, {none, 5}, {low, 1}, {high, 1}} {
		if int(plain.Told(c.told)) != c.want {
			t.Errorf("got %v, want the error %d", c.told, c.want)
		}
	}
}
