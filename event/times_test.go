package event_test

import (
	"slices"
	"testing"

	"chimework/api"
	"chimework/event"
)

// daysOf times, each once, by the library's calendar.
func daysOf(times []int) []int {
	var list []int
	for _, t := range times {
		list = append(list, int(moment(t).Unix()-moment(0).Unix())/86400+1)
	}
	return slices.Compact(list)
}

// wantTimes asks Local for times, and Days for the days of just these.
func wantTimes(t *testing.T, e api.Event, from, to int, want []int) {
	t.Helper()
	if got, err := event.Local(e, from, to); !slices.Equal(got, want) || err != nil {
		t.Errorf("Local(%+v, %d, %d): got %v, %v, want %v", e, from, to, got, err, want)
	}
	days := daysOf(want)
	if got, err := event.Days(e, from, to); !slices.Equal(got, days) || err != nil {
		t.Errorf("Days(%+v, %d, %d): got %v, %v, want %v", e, from, to, got, err, days)
	}
}

func wantMoved(t *testing.T, e api.Event, which, want int, off bool) {
	t.Helper()
	if got, is, err := event.Moved(e, which); got != want || is != off || err != nil {
		t.Errorf("Moved(%+v, %d): got %d, %v, %v, want %d, %v", e, which, got, is, err, want, off)
	}
}

// wantItself asks of an event without Changes that just these are its times in a stretch.
func wantItself(t *testing.T, e api.Event, from, to int, want []int) {
	t.Helper()
	wantTimes(t, e, from, to, want)
	for _, n := range want {
		wantMoved(t, e, n, n, false)
		for _, near := range []int{n - 1, n + 1} {
			if !slices.Contains(want, near) && near >= from && near <= to {
				wantNotMoved(t, e, near, api.ErrNone)
			}
		}
	}
}

func TestOnce(t *testing.T) {
	start := timeOf(t, "2026-11-16 09:30")
	for _, e := range []api.Event{
		once(start),
		{Name: "meet", Text: "of all", Start: start, Length: 100000, Alarms: []api.Alarm{{Offset: -10}, {Offset: 5, End: true, Repeat: 5, Between: 1}}},
		{Name: "a", Start: start, More: []int{start}},
		{Name: "a", Start: start, Not: []int{start - 1, start + 1}},
		{Name: "a", Start: start, Not: timesOf(t, "2026-11-15 09:30,2026-11-17 09:30")},
	} {
		wantItself(t, e, start, start, []int{start})
		wantItself(t, e, start-1, start+1, []int{start})
		wantItself(t, e, start, start+1, []int{start})
		wantItself(t, e, start-1, start, []int{start})
		wantItself(t, e, start-mostSpan, start, []int{start})
		wantItself(t, e, start, start+mostSpan, []int{start})
		wantItself(t, e, start-500000, start+500000, []int{start})
		for _, pair := range [][2]int{{start - 1, start - 1}, {start + 1, start + 1}, {start - mostSpan, start - 1}, {start + 1, start + mostSpan}, {1, 1}, {lastTime, lastTime}, {1, 1 + mostSpan}, {lastTime - mostSpan, lastTime}} {
			wantTimes(t, e, pair[0], pair[1], nil)
		}
	}
}

func TestOnceAtTheEnds(t *testing.T) {
	wantItself(t, once(1), 1, 1, []int{1})
	wantItself(t, once(1), 1, 1+mostSpan, []int{1})
	wantTimes(t, once(1), 2, 1440, nil)
	wantItself(t, once(lastTime), lastTime, lastTime, []int{lastTime})
	wantItself(t, once(lastTime), lastTime-mostSpan, lastTime, []int{lastTime})
	wantTimes(t, once(lastTime), lastTime-1440, lastTime-1, nil)
	both := once(66730170)
	both.More = []int{1, lastTime}
	wantItself(t, both, 1, 1440, []int{1})
	wantItself(t, both, lastTime-1, lastTime, []int{lastTime})
}

func TestRepeated(t *testing.T) {
	start := timeOf(t, "2026-11-16 09:30") // a Monday
	cases := []struct{ rule, to, want string }{
		{"daily", "2026-11-19 09:30", "2026-11-16 09:30,2026-11-17 09:30,2026-11-18 09:30,2026-11-19 09:30"},
		{"daily", "2026-11-19 09:29", "2026-11-16 09:30,2026-11-17 09:30,2026-11-18 09:30"},
		{"daily every 3", "2026-11-26 00:00", "2026-11-16 09:30,2026-11-19 09:30,2026-11-22 09:30,2026-11-25 09:30"},
		{"daily count 2", "2027-11-16 09:30", "2026-11-16 09:30,2026-11-17 09:30"},
		{"daily count 1", "2027-11-16 09:30", "2026-11-16 09:30"},
		{"daily until 2026-11-18", "2027-11-16 09:30", "2026-11-16 09:30,2026-11-17 09:30,2026-11-18 09:30"},
		{"daily until 2026-11-16", "2027-11-16 09:30", "2026-11-16 09:30"},
		{"daily until 2026-11-15", "2027-11-16 09:30", ""},
		{"weekly", "2026-12-07 10:00", "2026-11-16 09:30,2026-11-23 09:30,2026-11-30 09:30,2026-12-07 09:30"},
		{"weekly on tu,su", "2026-11-30 00:00", "2026-11-16 09:30,2026-11-17 09:30,2026-11-22 09:30,2026-11-24 09:30,2026-11-29 09:30"},
		{"weekly count 3 on su", "2027-11-30 00:00", "2026-11-16 09:30,2026-11-22 09:30,2026-11-29 09:30"},
		{"monthly", "2027-02-16 09:30", "2026-11-16 09:30,2026-12-16 09:30,2027-01-16 09:30,2027-02-16 09:30"},
		{"monthly days 31", "2027-04-01 00:00", "2026-11-16 09:30,2026-12-31 09:30,2027-01-31 09:30,2027-03-31 09:30"},
		{"monthly on -1fr", "2027-01-31 00:00", "2026-11-16 09:30,2026-11-27 09:30,2026-12-25 09:30,2027-01-29 09:30"},
		{"monthly days 16 on tu", "2028-05-01 00:00", "2026-11-16 09:30,2027-02-16 09:30,2027-03-16 09:30,2027-11-16 09:30"},
		{"yearly", "2028-05-01 00:00", "2026-11-16 09:30,2027-11-16 09:30"},
		{"yearly months 2 days 29", "2028-05-01 00:00", "2026-11-16 09:30,2028-02-29 09:30"},
		{"yearly until 2026-12-31 months 2 days 29", "2028-05-01 00:00", "2026-11-16 09:30"},
	}
	for _, c := range cases {
		e := repeated(t, start, c.rule)
		to := timeOf(t, c.to)
		want := timesOf(t, c.want)
		wantItself(t, e, start, to, want)
		// The stretch may begin well ahead of Start.
		wantItself(t, e, max(1, to-mostSpan), to, want)
		if len(want) > 0 {
			wantTimes(t, e, start+1, to, want[1:])
			wantTimes(t, e, start-1440, start-1, nil)
		}
	}
}

// From and to are just at a time, one minute ahead and one behind, on one day and on several.
func TestEndsOfAStretch(t *testing.T) {
	e := repeated(t, timeOf(t, "2026-11-16 09:30"), "daily")
	a, b := timeOf(t, "2027-03-01 09:30"), timeOf(t, "2027-03-03 09:30")
	all := []int{a, a + 1440, b}
	for first, from := range []int{a - 1, a, a + 1} {
		for last, to := range []int{b - 1, b, b + 1} {
			want := all
			if first == 2 {
				want = want[1:]
			}
			if last == 0 {
				want = want[:len(want)-1]
			}
			wantTimes(t, e, from, to, want)
		}
	}
	for _, c := range []struct {
		from, to int
		want     []int
	}{
		{a, a, []int{a}}, {a - 1, a, []int{a}}, {a, a + 1, []int{a}}, {a - 1, a + 1, []int{a}}, {a - 570, a + 869, []int{a}},
		{a - 1, a - 1, nil}, {a + 1, a + 1, nil}, {a - 570, a - 1, nil}, {a + 1, a + 869, nil}, {a + 1, a + 1439, nil},
		{a + 1, a + 1440, []int{a + 1440}}, {a, a + 1440, []int{a, a + 1440}},
	} {
		wantTimes(t, e, c.from, c.to, c.want)
	}
}

// The minute of Start is that of each day, at both ends of a day.
func TestEachMinuteOfADay(t *testing.T) {
	first := timeOf(t, "2026-11-16 00:00")
	for minute := range 1440 {
		e := repeated(t, first+minute, "daily every 2")
		wantTimes(t, e, first, first+4*1440-1, []int{first + minute, first + minute + 2880})
		wantTimes(t, e, first+2880, first+2880+1439, []int{first + minute + 2880})
		wantTimes(t, e, first+1440, first+1440+1439, nil)
	}
}

func TestRepeatedAtTheEnds(t *testing.T) {
	daily := repeated(t, 1, "daily")
	wantItself(t, daily, 1, 1, []int{1})
	wantItself(t, daily, 1, 2882, []int{1, 1441, 2881})
	wantItself(t, daily, lastTime-1440, lastTime, []int{lastTime - 1438})
	wantTimes(t, daily, lastTime-1437, lastTime, nil)
	late := repeated(t, 1439, "daily")
	wantItself(t, late, lastTime, lastTime, []int{lastTime})
	wantItself(t, late, lastTime-1440, lastTime, []int{lastTime - 1440, lastTime})
	for _, text := range []string{"daily", "weekly", "monthly", "yearly", "daily count 200", "weekly every 50", "yearly every 50"} {
		wantItself(t, repeated(t, lastTime, text), lastTime-mostSpan, lastTime, []int{lastTime})
		wantItself(t, repeated(t, lastTime-1, text), lastTime, lastTime, nil)
	}
	wantTimes(t, repeated(t, lastTime, "daily"), 1, 1+mostSpan, nil)
	wantTimes(t, repeated(t, lastTime, "daily"), lastTime-mostSpan-1, lastTime-1, nil)
}

func TestMore(t *testing.T) {
	start := timeOf(t, "2026-11-16 09:30")
	more := timesOf(t, "2026-11-14 23:59,2026-11-16 09:30,2026-11-17 09:30,2026-11-17 09:31,2026-11-18 00:00,2026-11-18 23:59,2026-11-20 09:30")
	a := once(start)
	a.More = more
	from, to := timeOf(t, "2026-11-01 00:00"), timeOf(t, "2026-11-30 00:00")
	wantItself(t, a, from, to, more)
	wantItself(t, a, more[0], more[6], more)
	wantTimes(t, a, more[0]+1, more[6]-1, more[1:6])
	wantTimes(t, a, more[3], more[3], more[3:4])
	wantTimes(t, a, more[3], more[5], more[3:6])

	// What is one of the rule's besides is there once; what is ahead of Start is there.
	b := repeated(t, start, "daily every 2 count 3")
	b.More = more
	want := timesOf(t, "2026-11-14 23:59,2026-11-16 09:30,2026-11-17 09:30,2026-11-17 09:31,2026-11-18 00:00,2026-11-18 09:30,2026-11-18 23:59,2026-11-20 09:30")
	wantItself(t, b, from, to, want)
	wantTimes(t, b, timeOf(t, "2026-11-18 00:00"), timeOf(t, "2026-11-18 23:59"), want[4:7])
	wantTimes(t, b, timeOf(t, "2026-11-18 00:01"), timeOf(t, "2026-11-18 23:58"), want[5:6])

	// More is no matter of the rule's Until, nor does it count.
	c := repeated(t, start, "weekly until 2026-11-15")
	c.More = more[2:4]
	wantItself(t, c, from, to, more[2:4])
	d := repeated(t, start, "weekly count 2")
	d.More = timesOf(t, "2026-11-15 09:30,2026-11-17 09:30,2026-12-24 18:00")
	wantItself(t, d, from, timeOf(t, "2027-01-01 00:00"), timesOf(t, "2026-11-15 09:30,2026-11-16 09:30,2026-11-17 09:30,2026-11-23 09:30,2026-12-24 18:00"))
}

func TestNot(t *testing.T) {
	start := timeOf(t, "2026-11-16 09:30")
	from, to := timeOf(t, "2026-11-01 00:00"), timeOf(t, "2026-11-30 00:00")

	gone := once(start)
	gone.Not = []int{start}
	wantTimes(t, gone, from, to, nil)
	wantTimes(t, gone, start, start, nil)
	wantNotMoved(t, gone, start, api.ErrNone)

	// Start that is one of Not counts all the same, and those that are none of the event take nothing away.
	a := repeated(t, start, "daily count 5")
	a.Not = timesOf(t, "2026-11-10 09:30,2026-11-16 09:30,2026-11-17 09:29,2026-11-17 09:31,2026-11-19 09:30,2026-11-21 09:30")
	wantItself(t, a, from, to, timesOf(t, "2026-11-17 09:30,2026-11-18 09:30,2026-11-20 09:30"))
	for _, n := range a.Not {
		wantNotMoved(t, a, n, api.ErrNone)
	}

	// What is one of Not is gone, also if it is one of More.
	b := repeated(t, start, "daily every 2 count 3")
	b.More = timesOf(t, "2026-11-15 08:00,2026-11-17 09:30,2026-11-18 09:30,2026-11-19 12:00")
	b.Not = timesOf(t, "2026-11-17 09:30,2026-11-18 09:30")
	wantItself(t, b, from, to, timesOf(t, "2026-11-15 08:00,2026-11-16 09:30,2026-11-19 12:00,2026-11-20 09:30"))
	wantNotMoved(t, b, b.Not[0], api.ErrNone)
	wantNotMoved(t, b, b.Not[1], api.ErrNone)

	// Two times of one day: the day is there as long as one of them is.
	c := once(start)
	c.More = []int{start - 1, start + 1}
	c.Not = []int{start}
	wantItself(t, c, from, to, []int{start - 1, start + 1})
	c.Not = []int{start - 1, start, start + 1}
	wantTimes(t, c, from, to, nil)
}

// Start is one of the times though its day is none that the rule asks for, and it counts.
func TestStartThatTheRuleDoesNotAskFor(t *testing.T) {
	start := timeOf(t, "2026-11-16 09:30") // a Monday
	e := repeated(t, start, "weekly count 3 on we")
	wantItself(t, e, start-1440, start+60*1440, timesOf(t, "2026-11-16 09:30,2026-11-18 09:30,2026-11-25 09:30"))
	e.Not = []int{start}
	wantItself(t, e, start-1440, start+60*1440, timesOf(t, "2026-11-18 09:30,2026-11-25 09:30"))
	f := repeated(t, start, "yearly months 2 days 29 on su")
	wantItself(t, f, start, start+mostSpan, []int{start})
	wantItself(t, f, timeOf(t, "2032-02-29 00:00"), timeOf(t, "2032-02-29 23:59"), timesOf(t, "2032-02-29 09:30"))
}

// Changes say when a time really is, not which times there are.
func TestChangesLeaveTheTimes(t *testing.T) {
	start := timeOf(t, "2026-11-16 09:30")
	e := repeated(t, start, "daily count 3")
	e.Changes = []api.Change{{At: start}, {At: start + 1440, To: start + 99}, {At: start + 5000, To: start + 98}}
	wantTimes(t, e, start-1440, start+10*1440, []int{start, start + 1440, start + 2880})
}

func TestMoved(t *testing.T) {
	start := timeOf(t, "2026-11-16 09:30")
	more, not := start+7200, start+1440
	e := repeated(t, start, "daily count 5")
	e.More = []int{start - 600, more}
	e.Not = []int{not}
	e.Changes = []api.Change{
		{At: start - 600, To: 1}, {At: start - 1, To: 5}, {At: not, To: 6}, {At: start + 2880, To: lastTime}, {At: start + 4320}, {At: start + 5760, To: start + 5760}, {At: more},
	}
	wantCheck(t, e, api.OK)
	wantMoved(t, e, start, start, false)
	wantMoved(t, e, start-600, 1, false)
	wantMoved(t, e, start+2880, lastTime, false)
	wantMoved(t, e, start+4320, 0, true)
	wantMoved(t, e, start+5760, start+5760, false)
	wantMoved(t, e, more, 0, true)
	// A time of Not, ones of no event, with a Change and without, and ones to which others are moved.
	for _, n := range append([]int{not, start - 1, start + 1, start - 1440, start + 5*1440 + 1, start + 6*1440, 1, 5, 6, lastTime}, noTimes...) {
		wantNotMoved(t, e, n, api.ErrNone)
	}
}

func TestMovedOfWhatIsOnce(t *testing.T) {
	start := timeOf(t, "2026-11-16 09:30")
	e := once(start)
	wantMoved(t, e, start, start, false)
	e.Changes = []api.Change{{At: start, To: start - 90}}
	wantMoved(t, e, start, start-90, false)
	wantNotMoved(t, e, start-90, api.ErrNone)
	e.Changes = []api.Change{{At: start}}
	wantMoved(t, e, start, 0, true)
	e.Changes = []api.Change{{At: start - 1}, {At: start + 1}}
	wantMoved(t, e, start, start, false)
	e.Not = []int{start}
	wantNotMoved(t, e, start, api.ErrNone)
	for _, n := range []int{1, lastTime} {
		at := once(n)
		wantMoved(t, at, n, n, false)
		at.Changes = []api.Change{{At: n, To: lastTime + 1 - n}}
		wantMoved(t, at, n, lastTime+1-n, false)
		for _, which := range noTimes {
			wantNotMoved(t, at, which, api.ErrNone)
		}
	}
}

// The hundredth Change is found as the first one is.
func TestMovedByEachChange(t *testing.T) {
	start := timeOf(t, "2026-11-16 09:30")
	e := repeated(t, start, "daily")
	for i := range mostList {
		e.Changes = append(e.Changes, api.Change{At: start + (i+1)*1440, To: i * 7})
	}
	wantMoved(t, e, start, start, false)
	for i := range mostList {
		wantMoved(t, e, start+(i+1)*1440, i*7, i == 0)
	}
	wantMoved(t, e, start+(mostList+1)*1440, start+(mostList+1)*1440, false)
}

func TestHowManyAreTold(t *testing.T) {
	start := timeOf(t, "2026-11-16 09:30")
	daily := repeated(t, start, "daily")
	wantItself(t, daily, start, start+199*1440, rising(start, 1440, mostFull))
	wantItself(t, daily, start-1, start+200*1440-1, rising(start, 1440, mostFull))
	wantNone(t, daily, start, start+200*1440, api.ErrFull)
	wantNone(t, daily, start, start+mostSpan, api.ErrFull)
	wantNone(t, daily, start-mostSpan/2, start+mostSpan/2, api.ErrFull)
	wantItself(t, repeated(t, start, "daily count 200"), start, start+mostSpan, rising(start, 1440, mostFull))
	wantItself(t, repeated(t, start, "daily every 4"), start, start+mostSpan, rising(start, 5760, 174))

	// Times of More count too, but once.
	more := daily
	more.More = []int{start}
	wantTimes(t, more, start, start+199*1440, rising(start, 1440, mostFull))
	more.More = []int{start + 1}
	wantNone(t, more, start, start+199*1440, api.ErrFull)
	wantTimes(t, more, start+2, start+200*1440, rising(start+1440, 1440, mostFull))

	// Those of Not do not count, so that the rule may have more of them.
	not := daily
	not.Not = rising(start, 2880, mostList)
	wantTimes(t, not, start, start+199*1440, rising(start+1440, 2880, mostList))
	wantTimes(t, not, start, start+299*1440, append(rising(start+1440, 2880, 99), rising(start+199*1440, 1440, 101)...))
	wantNone(t, not, start, start+300*1440, api.ErrFull)

	// With as many of More and Not as there may be.
	both := not
	both.More = rising(start+60, 1440, mostList)
	wantNone(t, both, start, start+299*1440, api.ErrFull)
	var want []int
	for i := range 200 {
		if i%2 == 1 {
			want = append(want, start+i*1440)
		}
		if i < 100 {
			want = append(want, start+i*1440+60)
		}
	}
	wantTimes(t, both, start, start+199*1440, want)
	wantNone(t, both, start, start+200*1440, api.ErrFull)
	wantTimes(t, both, start+61, start+200*1440, append(want[1:], start+200*1440))
}

// Two hundred times may be of few days.
func TestDaysOnce(t *testing.T) {
	start := timeOf(t, "2026-11-16 00:00")
	e := once(start)
	e.More = rising(start+1439, 1, mostList)
	wantTimes(t, e, start, start+2880, append([]int{start}, e.More...))
	if got, err := event.Days(e, start, start+2880); !slices.Equal(got, []int{46341, 46342}) || err != nil {
		t.Errorf("Days: got %v, %v, want [46341 46342]", got, err)
	}
	wantTimes(t, e, start+1440, start+1440, []int{start + 1440})
	wantTimes(t, e, start+1, start+1439, []int{start + 1439})
}

func TestStretch(t *testing.T) {
	events := []api.Event{once(1), once(lastTime), repeated(t, 66730170, "yearly"), repeated(t, 1, "yearly every 50"), repeated(t, 1439, "monthly every 50")}
	for _, e := range events {
		for _, from := range []int{1, 2, 66730170, lastTime - mostSpan} {
			if _, err := event.Local(e, from, from+mostSpan); err != nil {
				t.Errorf("Local(%+v, %d, %d): %v", e, from, from+mostSpan, err)
			}
			wantNone(t, e, from, from+mostSpan+1, api.ErrRange)
			wantNone(t, e, from+1, from, api.ErrRange)
		}
		wantNone(t, e, lastTime-mostSpan-1, lastTime, api.ErrRange)
		wantNone(t, e, 1, lastTime, api.ErrRange)
		wantNone(t, e, lastTime, 1, api.ErrRange)
		wantNone(t, e, lastTime, lastTime-1, api.ErrRange)
		wantNone(t, e, 2, 1, api.ErrRange)
		for _, n := range noTimes {
			for _, is := range []int{1, 66730170, lastTime} {
				wantNone(t, e, n, is, api.ErrRange)
				wantNone(t, e, is, n, api.ErrRange)
			}
			for _, other := range noTimes {
				wantNone(t, e, n, other, api.ErrRange)
			}
		}
	}
}
