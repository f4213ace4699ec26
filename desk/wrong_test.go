package desk_test

import (
	"math"
	"slices"
	"testing"

	"chimework/api"
	"chimework/desk"
	"chimework/plain"
)

// A zone of which chapter 7's Check tells something has no desk.
func TestWrongZones(t *testing.T) {
	shifts := func(many int) api.Zone {
		z := zoneOf(0)
		for i := range many {
			z.Shifts = append(z.Shifts, api.Shift{At: 1 + i*dayLong})
		}
		return z
	}
	wantNone := func(z api.Zone, want api.Errno) {
		t.Helper()
		if d, err := desk.New(z); d != nil || plain.Told(err) != want {
			t.Errorf("New(%v): got %v, %v, want none, %v", z, d, err, want)
		}
	}
	madeIn(t, shifts(20))
	wantNone(shifts(21), api.ErrFull)
	full := shifts(21)
	full.Ahead = 901
	wantNone(full, api.ErrFull)
	for _, n := range []int{901, -901, math.MaxInt, math.MinInt} {
		wantNone(zoneOf(n), api.ErrRange)
		wantNone(zoneOf(0, begin, n), api.ErrRange)
	}
	for _, n := range noTimes {
		wantNone(zoneOf(0, n, 0), api.ErrRange)
	}
	wantNone(zoneOf(0, begin, 0, begin+1439, 0), api.ErrClash)
	wantNone(zoneOf(0, begin, 0, begin, 0), api.ErrClash)
	wantNone(zoneOf(0, begin, 0, begin+1439, 901), api.ErrRange)
	wantNone(zoneOf(0, begin, 0, begin+1439, 0, 0, 0), api.ErrClash)
	madeIn(t, zoneOf(0, begin, 0, begin+1440, 0))
}

// wholeAsk has in each field what could be asked by itself.
func wholeAsk(what int) api.Ask {
	return api.Ask{What: what, Event: once("z", begin+3, 0, api.Alarm{}), Name: "a", Ring: bell("a", begin), N: begin + 100}
}

// What is asked is none that there is.
func TestWrongAsks(t *testing.T) {
	for _, what := range []int{0, 6, 7, -1, -5, 256 + api.Put, 1<<32 + api.Put, 1<<32 + api.Tick, math.MinInt, math.MaxInt} {
		d := rungAt(t, 0)
		wantRefused(t, d, wholeAsk(what), api.ErrRange)
		wantRefused(t, d, api.Ask{What: what}, api.ErrRange)
		wantDone(t, d, tick(begin+100))
		wantNames(t, d, "a b")
		fresh := made(t)
		wantRefused(t, fresh, wholeAsk(what), api.ErrRange)
		wantRefused(t, fresh, api.Ask{What: what}, api.ErrRange)
	}
}

// What an ask has beside what it asks for is no matter.
func TestOtherFieldsAreFree(t *testing.T) {
	bad := api.Event{Name: "Z", Start: -1, More: []int{5, 4}, Alarms: make([]api.Alarm, 9)}
	full := func(a api.Ask) api.Ask {
		if a.What != api.Put {
			a.Event = bad
		}
		if a.What != api.Drop {
			a.Name = "b"
		}
		if a.What != api.Done && a.What != api.Snooze {
			a.Ring = api.Ring{At: -1, Name: "b", Which: -1, Alarm: -1, Turn: -1}
		}
		if a.What != api.Tick && a.What != api.Snooze {
			a.N = math.MinInt
		}
		return a
	}
	d := made(t)
	wantDone(t, d, full(put(once("a", begin, 0, api.Alarm{}))))
	wantDone(t, d, full(put(once("b", begin, 0, api.Alarm{}, api.Alarm{Offset: 50}))))
	wantDone(t, d, full(put(once("c", begin, 0, api.Alarm{}))))
	wantDone(t, d, full(tick(begin-1)))
	wantDone(t, d, full(tick(begin)), bell("a", begin), bell("b", begin), bell("c", begin))
	wantDone(t, d, full(done(bell("a", begin))))
	wantDone(t, d, full(snooze(bell("b", begin), 7)))
	wantDone(t, d, full(drop("c")))
	wantNames(t, d, "a b")
	wantRung(t, d)
	wantSnoozed(t, d, moved(bell("b", begin), begin+7))
	wantDone(t, d, full(tick(begin+100)), moved(bell("b", begin), begin+7), api.Ring{At: begin + 50, Name: "b", Which: begin, Alarm: 1})
	wantRefused(t, d, full(drop("")), api.ErrNone)
	wantRefused(t, d, full(done(api.Ring{})), api.ErrNone)
	wantRefused(t, d, full(snooze(api.Ring{}, 1)), api.ErrNone)
	wantRefused(t, d, full(tick(0)), api.ErrRange)
}

// Each error by its number.
func TestErrorsByNumber(t *testing.T) {
	d := rungAt(t, 0)
	full := fullDesk(t)
	for _, c := range []struct {
		desk *desk.Desk
		ask  api.Ask
		want int
	}{
		{d, api.Ask{}, 1}, {d, tick(0), 1}, {d, tick(begin + mostSpan + 1), 1}, {d, snooze(bell("a", begin), 0), 1},
		{d, put(api.Event{}), 2}, {d, put(api.Event{Name: "a", Start: 1, Rule: api.Rule{Freq: 1}}), 3}, {full, put(once("z", 1, 0)), 4},
		{d, drop("z"), 5}, {d, done(api.Ring{}), 5}, {d, snooze(api.Ring{}, 1), 5}, {d, tick(begin), 6}, {d, put(api.Event{Name: "a", Start: 1, More: []int{1, 1}}), 7},
		{full, drop("ea"), 0}, {d, tick(begin + 1), 0},
	} {
		if _, err := c.desk.Do(c.ask); int(plain.Told(err)) != c.want {
			t.Errorf("Do(%+v): got %v, want the error %d", c.ask, err, c.want)
		}
	}
}

// Of all that is refused nothing is left, however often it is asked: what comes later is as if it had never been asked.
func TestRefusedIsNothing(t *testing.T) {
	way := func(refuse func(*desk.Desk)) held {
		d := made(t)
		refuse(d)
		wantDone(t, d, put(once("a", begin, 0, api.Alarm{Repeat: 3, Between: 10})))
		refuse(d)
		wantDone(t, d, put(repeated(t, "b", begin, 0, "daily", api.Alarm{})))
		refuse(d)
		wantDone(t, d, tick(begin-10))
		refuse(d)
		wantMany(t, d, tick(begin+10), 3)
		refuse(d)
		wantDone(t, d, snooze(bell("b", begin), 5))
		refuse(d)
		wantDone(t, d, done(bell("a", begin)))
		refuse(d)
		wantMany(t, d, tick(begin+3*dayLong), 6)
		refuse(d)
		return heldBy(d)
	}
	refuseAll := func(d *desk.Desk) {
		for told, events := range wrongEvents(t) {
			for _, e := range events {
				wantRefused(t, d, put(e), told)
			}
		}
		for _, a := range []api.Ask{drop(""), drop("c"), drop("ab"), done(bell("a", begin+1)), done(api.Ring{}), snooze(bell("c", begin), 1), snooze(api.Ring{}, longest)} {
			wantRefused(t, d, a, api.ErrNone)
		}
		for _, n := range noTimes {
			wantRefused(t, d, tick(n), api.ErrRange)
		}
		for _, n := range wrongMinutes {
			wantRefused(t, d, snooze(bell("a", begin), n), api.ErrRange)
		}
		if now := d.Now(); now > 0 {
			wantRefused(t, d, tick(now), api.ErrState)
			wantRefused(t, d, tick(1), api.ErrState)
			wantRefused(t, d, tick(now+mostSpan+1), api.ErrRange)
			wantRefused(t, d, tick(now+mostSpan), api.ErrFull)
		}
	}
	want := way(func(*desk.Desk) {})
	got := way(refuseAll)
	if !got.is(want) || len(want.rung) != 7 || !slices.Equal(want.names, []string{"a", "b"}) {
		t.Errorf("got %+v, want %+v", got, want)
	}
}
