package log_test

import (
	"strings"
	"testing"

	"chimework/api"
	"chimework/event"
)

// rising numbers from one to another one, in steps; never 0.
func rising(from, to, step int) []int {
	var list []int
	for n := from; n <= to; n += step {
		if n != 0 {
			list = append(list, n)
		}
	}
	return list
}

// fullest event: each of its lists is as long as may be.
func fullest() api.Event {
	e := api.Event{Name: "zzzzzzzz", Text: strings.Repeat(`\;,: ~`, 10), Start: begin, Length: 100000, Repeats: true}
	e.Rule = api.Rule{Freq: api.Monthly, Every: 50, Until: lastTime/dayLong + 1, Months: rising(1, 12, 1), Days: rising(-31, -1, 1), Pick: rising(-31, 7, 2)}
	for weekday := 1; weekday <= 5; weekday++ {
		for _, n := range []int{-5, -1, 0, 5} {
			e.Rule.Weeks = append(e.Rule.Weeks, api.Nth{N: n, Weekday: weekday})
		}
	}
	for i := range 100 {
		e.More = append(e.More, begin+i*777)
		e.Not = append(e.Not, begin+i*1554)
		e.Changes = append(e.Changes, api.Change{At: begin + i*777, To: i % 3 * (begin + i*500)})
	}
	e.Alarms = []api.Alarm{{Offset: -100000, Repeat: 5, Between: 10000}, {Offset: 100000, End: true}, {Offset: 0, Repeat: 1, Between: 1}, {Offset: -1, End: true, Repeat: 2, Between: 1440}}
	return e
}

// events that may be put: each kind of rule with each of its lists filled, each other list, and the ends of what may be.
func events(t *testing.T) []api.Event {
	t.Helper()
	list := []api.Event{
		once("a", begin+100), once("a", begin+100, api.Alarm{}), once("zzzzzzzz", begin+100, api.Alarm{Offset: -1000, Repeat: 5, Between: 77}),
		once("a", 1, api.Alarm{}), once("a", lastTime, api.Alarm{}), once("a", lastTime, api.Alarm{Offset: -100000}), once("a", 1, api.Alarm{Offset: 100000, End: true}),
		{Name: "a", Start: begin, Length: 100000, Alarms: []api.Alarm{{End: true}}},
		fullest(),
	}
	for _, text := range []string{
		"daily", "daily every 50", "daily count 200", "daily until 2027-01-31", "daily months 2,11,12", "daily days -31,-1,1,16,31", "daily on mo,we,su", "daily days 16,17 pick -31,31", "daily on mo,tu pick 1",
		"weekly", "weekly every 3 count 5", "weekly months 11", "weekly on mo,tu,we,th,fr,sa,su pick -1,2", "weekly until 2026-12-01 on su",
		"monthly", "monthly every 2 until 2199-12-31", "monthly months 1,12", "monthly days -31,-1,1,31", "monthly on -5mo,-1fr,1sa,su,5su", "monthly on mo,tu,we,th,fr pick -1,1", "monthly count 1 days 16 on mo pick 1",
		"yearly", "yearly every 4 count 7", "yearly months 2,11", "yearly months 11,12 days -1,16,17", "yearly months 12 on -1mo,2tu", "yearly months 11 on 3mo,tu pick -2,1",
	} {
		list = append(list, repeated(t, "a", begin+570, text, api.Alarm{}, api.Alarm{Offset: 15, End: true}))
	}
	for _, change := range []func(*api.Event){
		func(e *api.Event) { e.More = []int{1, begin - 5, begin + 7000, lastTime} },
		func(e *api.Event) { e.Not = []int{1, begin + 570, begin + 570 + dayLong, lastTime} },
		func(e *api.Event) {
			e.Changes = []api.Change{{At: 1, To: lastTime}, {At: begin + 570}, {At: begin + 570 + dayLong, To: begin + 3}, {At: lastTime, To: 1}}
		},
		func(e *api.Event) { e.Text = "what: \\n; and, so on" },
		func(e *api.Event) { e.Text = " " },
		func(e *api.Event) { e.Text = strings.Repeat("~", 60) },
		func(e *api.Event) { e.Alarms = nil },
		func(e *api.Event) { e.Alarms = fullest().Alarms },
	} {
		for _, e := range []api.Event{once("b", begin+570, api.Alarm{Offset: -20}), repeated(t, "b", begin+570, "daily count 5", api.Alarm{Offset: -20})} {
			change(&e)
			list = append(list, e)
		}
	}
	for _, e := range list {
		if err := event.Check(e); err != nil {
			t.Fatalf("%+v: %v", e, err)
		}
	}
	return list
}
