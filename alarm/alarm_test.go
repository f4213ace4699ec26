package alarm_test

import (
	"math"
	"slices"
	"strconv"
	"strings"
	"testing"
	"time"

	"chimework/alarm"
	"chimework/api"
	"chimework/plain"
	"chimework/rule"
)

// The numbers are written out, so that they are held against ones that the program did not work out.
const (
	lastTime    = 157785119
	mostSpan    = 1000000
	mostRings   = 400
	mostOffset  = 100000
	mostLength  = 100000
	mostRepeat  = 5
	mostBetween = 10000
)

// noTimes are none, up to the ends of int.
var noTimes = []int{
	math.MinInt, math.MinInt + 1, math.MinInt + 900, math.MinInt + mostOffset, math.MinInt + 250000, math.MinInt + mostSpan, math.MinInt / 2, math.MinInt32, -lastTime, -mostSpan, -mostOffset, -2, -1, 0,
	lastTime + 1, lastTime + 2, lastTime + 900, lastTime + mostSpan, math.MaxInt32, math.MaxInt / 2, math.MaxInt - mostSpan, math.MaxInt - 250000, math.MaxInt - mostOffset, math.MaxInt - 900, math.MaxInt - 1, math.MaxInt,
}

// timeOf a text, `YYYY-MM-DD HH:MM`, by the library's calendar.
func timeOf(t *testing.T, text string) int {
	t.Helper()
	m, err := time.Parse("2006-01-02 15:04", text)
	if err != nil {
		t.Fatal(err)
	}
	return int(m.Unix()-time.Date(1900, 1, 1, 0, 0, 0, 0, time.UTC).Unix()) / 60
}

// ring of an event whose name is a.
func ring(at, which, number, turn int) api.Ring {
	return api.Ring{At: at, Name: "a", Which: which, Alarm: number, Turn: turn}
}

// listOf texts: when it rings, the number of the alarm and the turn, which time that is of, `|` between; commas between two of them.
func listOf(t *testing.T, text string) []api.Ring {
	t.Helper()
	var list []api.Ring
	for _, words := range strings.Split(text, ",") {
		parts := strings.Split(words, "|")
		if len(parts) != 3 {
			t.Fatalf("%q are no three parts", words)
		}
		number, turn, _ := strings.Cut(parts[1], ".")
		k, wrong := strconv.Atoi(number)
		n, bad := strconv.Atoi(turn)
		if wrong != nil || bad != nil {
			t.Fatalf("%q are no two numbers", parts[1])
		}
		list = append(list, ring(timeOf(t, parts[0]), timeOf(t, parts[2]), k, n))
	}
	return list
}

// rising lists so many numbers, each by so much above the one ahead.
func rising(first, by, many int) []int {
	var list []int
	for i := range many {
		list = append(list, first+i*by)
	}
	return list
}

// zoneOf what it is ahead of all shifts, and then At and Ahead of each.
func zoneOf(ahead int, numbers ...int) api.Zone {
	z := api.Zone{Ahead: ahead}
	for pair := range slices.Chunk(numbers, 2) {
		z.Shifts = append(z.Shifts, api.Shift{At: pair[0], Ahead: pair[1]})
	}
	return z
}

// summers makes a zone that is an hour ahead, and two from spring to autumn.
func summers(t *testing.T) api.Zone {
	t.Helper()
	return zoneOf(60,
		timeOf(t, "2026-03-29 01:00"), 120, timeOf(t, "2026-10-25 01:00"), 60,
		timeOf(t, "2027-03-28 01:00"), 120, timeOf(t, "2027-10-31 01:00"), 60)
}

// once makes an event that is at one time.
func once(start, length int, alarms ...api.Alarm) api.Event {
	return api.Event{Name: "a", Start: start, Length: length, Alarms: alarms}
}

// repeated makes an event that repeats by a rule, as it is written.
func repeated(t *testing.T, start, length int, text string, alarms ...api.Alarm) api.Event {
	t.Helper()
	r, err := rule.Parse(text)
	if err != nil {
		t.Fatalf("%q: %v", text, err)
	}
	return api.Event{Name: "a", Start: start, Length: length, Repeats: true, Rule: r, Alarms: alarms}
}

func wantRings(t *testing.T, z api.Zone, e api.Event, from, to int, want ...api.Ring) {
	t.Helper()
	if got, err := alarm.Rings(z, e, from, to); !slices.Equal(got, want) || err != nil {
		same := 0
		for same < min(len(got), len(want)) && got[same] == want[same] {
			same++
		}
		t.Errorf("Rings(%v, %+v, %d, %d): got %d, %v, want %d; behind the first %d that are right: got %v, want %v", z, e, from, to, len(got), err, len(want), same, someOf(got[same:]), someOf(want[same:]))
	}
}

// someOf the rings, so that a list of hundreds is not told whole.
func someOf(list []api.Ring) []api.Ring { return list[:min(len(list), 5)] }

func wantNoRings(t *testing.T, z api.Zone, e api.Event, from, to int, want api.Errno) {
	t.Helper()
	if got, err := alarm.Rings(z, e, from, to); len(got) != 0 || plain.Told(err) != want {
		t.Errorf("Rings(%v, %+v, %d, %d): got %d, %v, want none, %v", z, e, from, to, len(got), err, want)
	}
}

// holdRings asks for a stretch of an event all of whose rings there are in a list, in order.
func holdRings(t *testing.T, z api.Zone, e api.Event, from, to int, all []api.Ring) {
	t.Helper()
	var want []api.Ring
	for _, each := range all {
		if each.At >= from && each.At < to {
			want = append(want, each)
		}
	}
	if len(want) > mostRings {
		wantNoRings(t, z, e, from, to, api.ErrFull)
	} else {
		wantRings(t, z, e, from, to, want...)
	}
}

// hold stretches near all rings that an event has against these, and some near its times.
func hold(t *testing.T, z api.Zone, e api.Event, all []api.Ring) {
	t.Helper()
	near := []int{1, 2, e.Start, lastTime - 1, lastTime}
	for _, each := range all {
		near = append(near, each.At-1, each.At, each.At+1, each.Which-1, each.Which, each.Which+1)
	}
	for _, n := range near {
		if n < 1 || n > lastTime {
			continue
		}
		for _, long := range []int{0, 1, 2, 1440, 99999, mostSpan} {
			if n+long <= lastTime {
				holdRings(t, z, e, n, n+long, all)
			}
			if n > long {
				holdRings(t, z, e, n-long, n, all)
			}
		}
	}
}

func TestOneAlarmOfOneTime(t *testing.T) {
	start := timeOf(t, "2026-11-16 09:30")
	october, december := timeOf(t, "2026-10-25 01:00"), timeOf(t, "2026-12-01 00:00")
	for _, place := range []struct {
		zone api.Zone
		from string
	}{
		{zoneOf(0), "2026-11-16 09:30"},
		{zoneOf(60), "2026-11-16 08:30"},
		{zoneOf(-300), "2026-11-16 14:30"},
		{zoneOf(900), "2026-11-15 18:30"},
		{zoneOf(-900), "2026-11-17 00:30"},
		{zoneOf(120, october, 60), "2026-11-16 08:30"},
		{zoneOf(120, december, 60), "2026-11-16 07:30"},
		{zoneOf(0, october, 120, december, -60), "2026-11-16 07:30"},
		{summers(t), "2026-11-16 08:30"},
	} {
		from := timeOf(t, place.from)
		for _, c := range []struct {
			alarm  api.Alarm
			behind []int
		}{
			{api.Alarm{}, []int{0}},
			{api.Alarm{Offset: -10}, []int{-10}},
			{api.Alarm{Offset: 15}, []int{15}},
			{api.Alarm{End: true}, []int{90}},
			{api.Alarm{Offset: -5, End: true}, []int{85}},
			{api.Alarm{Offset: -90, End: true}, []int{0}},
			{api.Alarm{Offset: 20, End: true}, []int{110}},
			{api.Alarm{Repeat: 1, Between: 1}, []int{0, 1}},
			{api.Alarm{Offset: -30, Repeat: 2, Between: 10}, []int{-30, -20, -10}},
			{api.Alarm{Offset: -30, Repeat: 5, Between: 25}, []int{-30, -5, 20, 45, 70, 95}},
			{api.Alarm{Offset: -100, End: true, Repeat: 3, Between: 1440}, []int{-10, 1430, 2870, 4310}},
		} {
			var want []api.Ring
			for turn, n := range c.behind {
				want = append(want, ring(from+n, start, 0, turn))
			}
			hold(t, place.zone, once(start, 90, c.alarm), want)
		}
	}
}

func TestNoAlarm(t *testing.T) {
	for _, e := range []api.Event{once(66730170, 90), repeated(t, 66730170, 90, "daily"), repeated(t, 1, 0, "daily count 200")} {
		hold(t, summers(t), e, nil)
	}
}

// Four alarms, of which turns of one are among those of others; the last two are the same.
func TestFourAlarms(t *testing.T) {
	start := timeOf(t, "2026-11-16 09:30")
	e := once(start, 45, api.Alarm{Offset: -30, Repeat: 4, Between: 20}, api.Alarm{Offset: -15}, api.Alarm{End: true, Repeat: 1, Between: 5}, api.Alarm{End: true, Repeat: 1, Between: 5})
	hold(t, zoneOf(60), e, listOf(t, "2026-11-16 08:00|0.0|2026-11-16 09:30,"+
		"2026-11-16 08:15|1.0|2026-11-16 09:30,"+
		"2026-11-16 08:20|0.1|2026-11-16 09:30,"+
		"2026-11-16 08:40|0.2|2026-11-16 09:30,"+
		"2026-11-16 09:00|0.3|2026-11-16 09:30,"+
		"2026-11-16 09:15|2.0|2026-11-16 09:30,"+
		"2026-11-16 09:15|3.0|2026-11-16 09:30,"+
		"2026-11-16 09:20|0.4|2026-11-16 09:30,"+
		"2026-11-16 09:20|2.1|2026-11-16 09:30,"+
		"2026-11-16 09:20|3.1|2026-11-16 09:30"))
}

// What comes again rings again, past a shift: an alarm is so many minutes of the whole world from when it is.
func TestRepeated(t *testing.T) {
	e := repeated(t, timeOf(t, "2026-10-23 09:30"), 60, "daily count 4", api.Alarm{Offset: -600}, api.Alarm{Offset: 5, End: true, Repeat: 1, Between: 10})
	hold(t, summers(t), e, listOf(t, "2026-10-22 21:30|0.0|2026-10-23 09:30,"+
		"2026-10-23 08:35|1.0|2026-10-23 09:30,"+
		"2026-10-23 08:45|1.1|2026-10-23 09:30,"+
		"2026-10-23 21:30|0.0|2026-10-24 09:30,"+
		"2026-10-24 08:35|1.0|2026-10-24 09:30,"+
		"2026-10-24 08:45|1.1|2026-10-24 09:30,"+
		"2026-10-24 22:30|0.0|2026-10-25 09:30,"+
		"2026-10-25 09:35|1.0|2026-10-25 09:30,"+
		"2026-10-25 09:45|1.1|2026-10-25 09:30,"+
		"2026-10-25 22:30|0.0|2026-10-26 09:30,"+
		"2026-10-26 09:35|1.0|2026-10-26 09:30,"+
		"2026-10-26 09:45|1.1|2026-10-26 09:30"))

	weekly := repeated(t, timeOf(t, "2026-11-18 09:30"), 0, "weekly until 2026-11-30 on mo,th", api.Alarm{Offset: -1440})
	hold(t, zoneOf(0), weekly, listOf(t, "2026-11-17 09:30|0.0|2026-11-18 09:30,"+
		"2026-11-18 09:30|0.0|2026-11-19 09:30,"+
		"2026-11-22 09:30|0.0|2026-11-23 09:30,"+
		"2026-11-25 09:30|0.0|2026-11-26 09:30,"+
		"2026-11-29 09:30|0.0|2026-11-30 09:30"))
}

func TestMoreNotAndChanges(t *testing.T) {
	start := timeOf(t, "2026-10-23 09:30")
	e := repeated(t, start, 30, "daily count 5", api.Alarm{Offset: -10}, api.Alarm{Offset: 1, End: true})
	e.More = []int{timeOf(t, "2026-10-01 00:00"), start, timeOf(t, "2026-10-24 18:00")}
	e.Not = []int{timeOf(t, "2026-10-24 09:30"), timeOf(t, "2026-10-24 09:31")}
	e.Changes = []api.Change{
		{At: start, To: timeOf(t, "2026-10-27 09:35")},                         // behind, past the shift
		{At: timeOf(t, "2026-10-24 09:30"), To: timeOf(t, "2026-10-02 00:00")}, // one of Not is moved nowhere
		{At: timeOf(t, "2026-10-25 09:30")},                                    // called off
		{At: timeOf(t, "2026-10-26 09:30"), To: timeOf(t, "2027-07-14 12:00")}, // into another year
		{At: timeOf(t, "2026-10-26 09:31"), To: timeOf(t, "2026-10-03 00:00")}, // no time of it
	}
	want := listOf(t, "2026-09-30 21:50|0.0|2026-10-01 00:00,"+
		"2026-09-30 22:31|1.0|2026-10-01 00:00,"+
		"2026-10-24 15:50|0.0|2026-10-24 18:00,"+
		"2026-10-24 16:31|1.0|2026-10-24 18:00,"+
		"2026-10-27 08:20|0.0|2026-10-27 09:30,"+
		"2026-10-27 08:25|0.0|2026-10-23 09:30,"+
		"2026-10-27 09:01|1.0|2026-10-27 09:30,"+
		"2026-10-27 09:06|1.0|2026-10-23 09:30,"+
		"2027-07-14 09:50|0.0|2026-10-26 09:30,"+
		"2027-07-14 10:31|1.0|2026-10-26 09:30")
	hold(t, summers(t), e, want)

	f := once(start, 30, e.Alarms...)
	f.More, f.Not, f.Changes = e.More, e.Not, e.Changes
	gone := func(r api.Ring) bool { return r.Which > timeOf(t, "2026-10-24 18:00") }
	hold(t, summers(t), f, slices.DeleteFunc(want, gone))
	f.Not, f.Changes = f.More, nil
	hold(t, summers(t), f, nil)
	off := once(start, 30, e.Alarms...)
	off.Changes = []api.Change{{At: start}}
	hold(t, summers(t), off, nil)
}

// A ring has the name of its event, and is told by all of it.
func TestWhatARingHas(t *testing.T) {
	e := repeated(t, 66730170, 90, "daily count 2", api.Alarm{Offset: -10}, api.Alarm{End: true, Repeat: 1, Between: 7})
	for _, name := range []string{"a", "meet", "zzzzzzzz"} {
		e.Name, e.Text = name, "of no matter"
		wantRings(t, zoneOf(60), e, 66730110, 66731541,
			api.Ring{At: 66730200, Name: name, Which: 66730170, Alarm: 1, Turn: 0},
			api.Ring{At: 66730207, Name: name, Which: 66730170, Alarm: 1, Turn: 1},
			api.Ring{At: 66731540, Name: name, Which: 66731610, Alarm: 0, Turn: 0})
	}
}
