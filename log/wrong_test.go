package log_test

import (
	"math"
	"testing"

	"chimework/api"
	"chimework/log"
	"chimework/plain"
)

// What is wrong with a zone is told, and there is no log.
func TestWrongZones(t *testing.T) {
	for told, zones := range map[api.Errno][]api.Zone{
		api.ErrFull:  {zoneOf(0, make([]api.Shift, 21)...), zoneOf(901, make([]api.Shift, 21)...)},
		api.ErrRange: {zoneOf(901), zoneOf(-901), zoneOf(math.MaxInt), zoneOf(math.MinInt), zoneOf(0, api.Shift{}), zoneOf(0, api.Shift{At: lastTime + 1}), zoneOf(0, api.Shift{At: begin, Ahead: 901}), zoneOf(0, api.Shift{At: begin}, api.Shift{At: begin, Ahead: -901})},
		api.ErrClash: {zoneOf(0, api.Shift{At: begin}, api.Shift{At: begin + 1439}), zoneOf(0, api.Shift{At: begin}, api.Shift{At: begin - dayLong})},
	} {
		for _, z := range zones {
			if l, err := log.New(z); l != nil || plain.Told(err) != told {
				t.Errorf("New(%v): got %v, %v, want none, %v", z, l, err, told)
			}
		}
	}
}

// Of an ask with an error nothing is kept, at each place of a story: what comes later is as if it had never been asked.
func TestNothingOfErrors(t *testing.T) {
	z, asks := story(t)
	ends := ends(t, z, asks...)
	l := madeIn(t, z)
	for i, a := range asks {
		wantWrong(t, l)
		wantHeld(t, l, deskOf(t, z, asks[:i]...))
		doAll(t, l, a)
		wantSize(t, l, ends[i+1], 0)
	}
	wantWrong(t, l)
	l.Crash(ends[len(asks)])
	wantLeft(t, l, z, asks, len(asks), ends[len(asks)])
}

// Rings that have not rung, or have so no more, and those of an event that was put anew.
func TestRingsThatHaveNot(t *testing.T) {
	a := bell("a", begin+1)
	l := logOf(t, zoneOf(0), put(once("a", begin+1, api.Alarm{})), tick(begin))
	wantBoth := func() {
		t.Helper()
		wantRefused(t, l, done(a), api.ErrNone)
		wantRefused(t, l, snooze(a, 1), api.ErrNone)
		wantRefused(t, l, snooze(a, 0), api.ErrRange)
		wantRefused(t, l, snooze(a, 10001), api.ErrRange)
	}
	wantBoth()
	doAll(t, l, tick(begin+2))
	for _, r := range []api.Ring{later(a, begin+2), {At: begin + 1, Name: "b", Which: begin + 1}, {At: begin + 1, Name: "a", Which: begin}, {At: begin + 1, Name: "a", Which: begin + 1, Alarm: 1}, {At: begin + 1, Name: "a", Which: begin + 1, Turn: 1}} {
		wantRefused(t, l, done(r), api.ErrNone)
		wantRefused(t, l, snooze(r, 1), api.ErrNone)
	}
	wantSync(t, l)
	doAll(t, l, done(a))
	wantBoth()
	l.Crash(0)
	doAll(t, l, snooze(a, 1))
	wantBoth()
	l.Crash(0)
	doAll(t, l, put(once("a", begin+1, api.Alarm{})))
	wantBoth()
	l.Crash(math.MaxInt)
	wantBoth()
}

// What an ask has beside what its What looks at is no matter, whatever it is, behind a Crash neither.
func TestBesideWhatIsAsked(t *testing.T) {
	z, asks := story(t)
	crowd := make([]api.Ask, len(asks))
	for i, a := range asks {
		if a.What != api.Put {
			a.Event = api.Event{Name: "Z\x00", Text: "\x00\n", Start: -1, More: []int{5, 4}, Alarms: make([]api.Alarm, 9)}
		}
		if a.What != api.Drop {
			a.Name = "gone\x00 \n"
		}
		if a.What != api.Done && a.What != api.Snooze {
			a.Ring = api.Ring{At: -1, Name: "\x00 \n", Which: math.MinInt, Alarm: -1, Turn: math.MaxInt}
		}
		if a.What != api.Tick && a.What != api.Snooze {
			a.N = math.MinInt
		}
		crowd[i] = a
	}
	l := logOf(t, z, crowd...)
	l.Crash(math.MaxInt)
	wantLeft(t, l, z, asks, len(asks), ends(t, z, crowd...)[len(asks)])
}

// Each error by its number.
func TestErrorsByNumber(t *testing.T) {
	l := logOf(t, zoneOf(0), put(once("a", begin, api.Alarm{})), tick(begin))
	numberOf := func(_ []api.Ring, err error) int { return int(plain.Told(err)) }
	for want, a := range []api.Ask{tick(begin + 1), tick(0), put(api.Event{}), put(api.Event{Name: "a", Start: 1, Rule: api.Rule{Freq: 1}}), put(api.Event{Name: "a", Start: 1, Not: make([]int, 101)}), drop("b"), tick(begin), put(api.Event{Name: "a", Start: 1, More: []int{1, 1}})} {
		if got := numberOf(l.Do(a)); got != want {
			t.Errorf("Do(%+v): got the error %d, want %d", a, got, want)
		}
	}
	if got := numberOf(nil, l.Sync()); got != 0 {
		t.Errorf("Sync: got the error %d", got)
	}
	l.Fail(0)
	if got := []int{numberOf(l.Do(drop("a"))), numberOf(l.Do(drop("b"))), numberOf(nil, l.Sync())}; got[0] != 6 || got[1] != 6 || got[2] != 6 {
		t.Errorf("where it has stopped: got the errors %v, want 6", got)
	}
}
