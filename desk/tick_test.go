package desk_test

import (
	"math"
	"slices"
	"testing"

	"chimework/api"
	"chimework/desk"
)

// The first Tick may be to any time, however far it is from 0 and from what rings, and tells nothing.
func TestFirstTick(t *testing.T) {
	loud := repeated(t, "loud", 1, 0, "daily", api.Alarm{Repeat: 5, Between: 1}, api.Alarm{Offset: 10, Repeat: 5, Between: 1})
	for _, n := range []int{1, 2, 399, mostSpan - 1, mostSpan, mostSpan + 1, 2 * mostSpan, begin, lastTime - mostSpan, lastTime - 1, lastTime} {
		for _, events := range [][]api.Event{nil, {loud}, {once("a", n, 0, api.Alarm{})}, {loud, once("a", n, 0, api.Alarm{}), once("b", max(n-1, 1), 0, api.Alarm{})}} {
			d := running(t, n, events...)
			wantNow(t, d, n)
			wantRung(t, d)
			wantSnoozed(t, d)
			wantRefused(t, d, tick(n), api.ErrState)
		}
	}
}

// N is no time, as the first one and behind others.
func TestTickToNoTime(t *testing.T) {
	fresh, late := made(t), running(t, lastTime-1)
	d := running(t, begin, once("a", begin+1, 0, api.Alarm{}))
	early := running(t, 1)
	for _, n := range noTimes {
		for _, d := range []*desk.Desk{fresh, late, d, early} {
			wantRefused(t, d, tick(n), api.ErrRange)
		}
	}
	wantNow(t, fresh, 0)
	wantDone(t, fresh, tick(lastTime))
	wantDone(t, d, tick(begin+1), bell("a", begin+1))
	wantDone(t, late, tick(lastTime))
	for _, n := range noTimes {
		wantRefused(t, late, tick(n), api.ErrRange)
	}
	for _, n := range []int{1, begin, lastTime - 1, lastTime} {
		wantRefused(t, late, tick(n), api.ErrState)
	}
}

// N is Now, one below, one above, and far below.
func TestTickNearNow(t *testing.T) {
	for _, now := range []int{2, begin, lastTime - 1} {
		d := running(t, now, once("a", now, 0, api.Alarm{}), once("b", now-1, 0, api.Alarm{}), once("c", now+1, 0, api.Alarm{}))
		for _, n := range []int{now, now - 1, 1} {
			wantRefused(t, d, tick(n), api.ErrState)
		}
		wantDone(t, d, tick(now+1), bell("c", now+1))
		for _, n := range []int{now + 1, now, now - 1, 1} {
			wantRefused(t, d, tick(n), api.ErrState)
		}
		wantRung(t, d, bell("c", now+1))
	}
}

// N may be mostSpan above Now, no more.
func TestHowFarATick(t *testing.T) {
	for _, now := range []int{1, begin, lastTime - mostSpan - 1} {
		d := running(t, now, once("a", now+mostSpan, 0, api.Alarm{}), once("b", now+mostSpan+1, 0, api.Alarm{}))
		for _, n := range []int{now + mostSpan + 1, min(now+mostSpan+2, lastTime), lastTime} {
			wantRefused(t, d, tick(n), api.ErrRange)
		}
		wantDone(t, d, tick(now+mostSpan), bell("a", now+mostSpan))
		wantDone(t, d, tick(now+mostSpan+1), bell("b", now+mostSpan+1))
	}
	d := running(t, lastTime-mostSpan, once("a", lastTime, 0, api.Alarm{}))
	wantDone(t, d, tick(lastTime), bell("a", lastTime))
}

// A ring just at Now, just behind it, just at N, and just behind N.
func TestEndsOfATick(t *testing.T) {
	for _, long := range []int{1, 2, 3, 60, dayLong, mostSpan - 1, mostSpan} {
		for _, c := range []struct {
			at     int
			isTold bool
		}{{-1, false}, {0, false}, {1, true}, {long, true}, {long + 1, false}} {
			for _, a := range []api.Alarm{{}, {Offset: -30}, {Offset: 7, End: true}} {
				e := once("a", begin+c.at-a.Offset, 0, a)
				d := running(t, begin, e)
				var want []api.Ring
				if c.isTold {
					want = list(moved(bell("a", e.Start), begin+c.at))
				}
				wantDone(t, d, tick(begin+long), want...)
				wantRung(t, d, want...)
				if c.at == long+1 {
					wantDone(t, d, tick(begin+long+1), moved(bell("a", e.Start), begin+c.at))
				} else {
					wantDone(t, d, tick(begin+long+1))
				}
			}
		}
	}
}

// What rings at the last time of all is told; the first time of all is never behind Now, so nothing is told of it.
func TestEndsOfTheCalendar(t *testing.T) {
	e := once("a", lastTime-2, 2, api.Alarm{Repeat: 5, Between: 1}, api.Alarm{End: true}, api.Alarm{End: true, Offset: 1})
	of := func(at, number, turn int) api.Ring {
		return api.Ring{At: at, Name: "a", Which: lastTime - 2, Alarm: number, Turn: turn}
	}
	for _, now := range []int{lastTime - 1000, lastTime - 3} {
		d := running(t, now, e)
		wantDone(t, d, tick(lastTime), of(lastTime-2, 0, 0), of(lastTime-1, 0, 1), of(lastTime, 0, 2), of(lastTime, 1, 0))
	}
	d := running(t, lastTime-1, e)
	wantDone(t, d, tick(lastTime), of(lastTime, 0, 2), of(lastTime, 1, 0))
	wantRefused(t, d, tick(lastTime+1), api.ErrRange)

	d = running(t, 1, once("a", 1, 0, api.Alarm{Repeat: 1, Between: 1}), once("b", 2, 0, api.Alarm{}, api.Alarm{Offset: -1}, api.Alarm{Offset: -2}))
	wantDone(t, d, tick(2), api.Ring{At: 2, Name: "a", Which: 1, Turn: 1}, bell("b", 2))
}

// One big Tick tells what many small ones tell together, snoozed ones too.
func TestBigAndSmall(t *testing.T) {
	z := zoneOf(60, begin+2*dayLong, 120, begin+5*dayLong, 0)
	way := func(steps ...int) (told []api.Ring, at held) {
		d := madeIn(t, z)
		wantDone(t, d, put(repeated(t, "daily", begin+600, 30, "daily", api.Alarm{Offset: -10}, api.Alarm{End: true, Repeat: 3, Between: 7})))
		wantDone(t, d, put(repeated(t, "week", begin+600, 30, "weekly on mo,we,fr", api.Alarm{Offset: -dayLong}, api.Alarm{})))
		wantDone(t, d, put(once("one", begin+2*dayLong+601, 5, api.Alarm{})))
		wantDone(t, d, tick(begin))
		rung, err := d.Do(tick(begin + 600))
		if err != nil || len(rung) != 6 {
			t.Fatalf("got %v, %v", rung, err)
		}
		for i, r := range rung {
			wantDone(t, d, snooze(r, 5+i*900))
		}
		for i := 0; d.Now() < begin+10*dayLong; i++ {
			list, err := d.Do(tick(min(d.Now()+steps[i%len(steps)], begin+10*dayLong)))
			if err != nil {
				t.Fatal(err)
			}
			told = append(told, list...)
		}
		return told, heldBy(d)
	}
	want, end := way(10 * dayLong)
	if len(want) < 50 {
		t.Fatalf("only %d are told", len(want))
	}
	for _, steps := range [][]int{{5}, {1, 29}, {1, 1, 118}, {60}, {dayLong}, {1, 5000}, {1439, 1441, 1}, {10*dayLong - 601, 1}} {
		if got, at := way(steps...); !slices.Equal(got, want) || !at.is(end) {
			t.Errorf("in steps of %v: got %d, %+v, want %d, %+v", steps, len(got), at, len(want), end)
		}
	}
}

// dailyRings of an event a that is each day from a time on.
func dailyRings(first, many int) []api.Ring {
	var all []api.Ring
	for i := range many {
		all = append(all, bell("a", first+i*dayLong))
	}
	return all
}

// As many rings of one event in the time of a Tick as may be, and one more.
func TestHowManyOfOneEvent(t *testing.T) {
	last := begin + (mostRings-1)*dayLong
	for _, more := range []int{1, 2, 100} {
		d := running(t, begin-1, repeated(t, "a", begin, 0, "daily", api.Alarm{}), once("b", begin, 0))
		wantRefused(t, d, tick(last+more*dayLong), api.ErrFull)
		wantDone(t, d, tick(last+dayLong-1), dailyRings(begin, mostRings)...)
		wantRung(t, d, dailyRings(begin, mostRings)...)
		wantRefused(t, d, tick(last+dayLong), api.ErrFull)
		wantNow(t, d, last+dayLong-1)
	}
	// What is refused leaves the time as it was, so the next one begins where that began.
	d := running(t, begin-1, repeated(t, "a", begin, 0, "daily", api.Alarm{}))
	wantDone(t, d, tick(begin), dailyRings(begin, 1)...)
	wantRefused(t, d, tick(begin+mostSpan), api.ErrFull)
	wantDone(t, d, tick(begin+mostRings*dayLong-1), dailyRings(begin+dayLong, mostRings-1)...)
}

// crowd makes so many events of 20 rings each: they ring from begin+1 to begin+20.
func crowd(many int) []api.Event {
	four := []api.Alarm{{Repeat: 4, Between: 1}, {Offset: 5, Repeat: 4, Between: 1}, {Offset: 10, Repeat: 4, Between: 1}, {Offset: 15, Repeat: 4, Between: 1}}
	var events []api.Event
	for _, name := range namesOf(many) {
		events = append(events, once(name, begin+1, 0, four...))
	}
	return events
}

// wantMany asks what is to tell so many.
func wantMany(t *testing.T, d *desk.Desk, a api.Ask, want int) []api.Ring {
	t.Helper()
	got, err := d.Do(a)
	if len(got) != want || err != nil {
		t.Fatalf("Do(%+v): got %d, %v, want %d", a, len(got), err, want)
	}
	if !slices.IsSortedFunc(got, byFields) || len(slices.Compact(slices.Clone(got))) != want {
		t.Fatalf("Do(%+v): they do not rise: %v", a, got)
	}
	return got
}

// As many as may be told of several events together, and one more.
func TestHowManyAreTold(t *testing.T) {
	d := running(t, begin, crowd(mostEvents)...)
	wantMany(t, d, tick(begin+20), mostRings)
	if many := len(d.Rung()); many != mostRings {
		t.Errorf("%d have rung", many)
	}
	events := crowd(mostEvents)
	events[7].More = []int{begin + 20}
	d = running(t, begin, events...)
	wantRefused(t, d, tick(begin+20), api.ErrFull)
	wantMany(t, d, tick(begin+19), mostRings-mostEvents)
	wantRefused(t, d, tick(begin+20), api.ErrFull)
	wantDone(t, d, done(d.Rung()[200]))
	wantMany(t, d, tick(begin+20), mostEvents+1)
}

// As many as may be told, of which some were snoozed, and one more.
func TestHowManyAreToldWithSnoozed(t *testing.T) {
	for _, more := range []int{0, 1} {
		events := append(crowd(mostEvents-1), once("z", begin, 0, api.Alarm{}), once("z", begin, 0, api.Alarm{}))
		z := &events[len(events)-1]
		for i := range 19 + more {
			z.More = append(z.More, begin+1+i)
		}
		d := running(t, begin-1, events...)
		r := bell("z", begin)
		wantDone(t, d, tick(begin), r)
		wantDone(t, d, snooze(r, 15))
		if more == 0 {
			told := wantMany(t, d, tick(begin+20), mostRings)
			if !slices.Contains(told, moved(r, begin+15)) {
				t.Errorf("what was snoozed is not told")
			}
			wantSnoozed(t, d)
			continue
		}
		wantRefused(t, d, tick(begin+20), api.ErrFull)
		wantSnoozed(t, d, moved(r, begin+15))
		wantRung(t, d)
		wantMany(t, d, tick(begin+14), 14*mostEvents)
		wantSnoozed(t, d, moved(r, begin+15))
		wantMany(t, d, tick(begin+15), mostEvents+1)
		wantSnoozed(t, d)
		wantRefused(t, d, tick(begin+20), api.ErrFull)
	}
}

// As many as may be would have rung together with those that have, and one more.
func TestHowManyHaveRung(t *testing.T) {
	for _, rung := range []int{1, 20, 199, 200, 201, 380, 399} {
		d := running(t, begin-1, repeated(t, "a", begin, 0, "daily", api.Alarm{}))
		wantMany(t, d, tick(begin+rung*dayLong-1), rung)
		end := begin + mostRings*dayLong
		wantRefused(t, d, tick(end), api.ErrFull)
		wantNow(t, d, begin+rung*dayLong-1)
		wantRung(t, d, dailyRings(begin, rung)...)
		wantMany(t, d, tick(end-1), mostRings-rung)
		wantRung(t, d, dailyRings(begin, mostRings)...)
		// One more has room behind a Done, and a Snooze, and none behind that.
		wantRefused(t, d, tick(end), api.ErrFull)
		wantDone(t, d, done(bell("a", begin)))
		wantDone(t, d, tick(end), bell("a", end))
		wantRefused(t, d, tick(end+dayLong), api.ErrFull)
		wantDone(t, d, snooze(bell("a", end), longest))
		wantDone(t, d, tick(end+dayLong), bell("a", end+dayLong))
		wantRefused(t, d, tick(end+2*dayLong), api.ErrFull)
		// An event without any more rings may ring on.
		wantDone(t, d, put(once("b", end+dayLong+2, 0)))
		wantDone(t, d, tick(end+2*dayLong-1))
	}
}

// What has rung leaves with its event, and makes room for as many, and no more.
func TestRoomBehindADrop(t *testing.T) {
	for _, a := range []api.Ask{drop("ed"), put(once("ed", begin, 0))} {
		d := running(t, begin, crowd(mostEvents)...)
		wantMany(t, d, tick(begin+20), mostRings)
		wantDone(t, d, a)
		wantDone(t, d, put(repeated(t, "ee", begin+30, 0, "daily", api.Alarm{})))
		wantRefused(t, d, tick(begin+30+40*dayLong), api.ErrFull)
		wantMany(t, d, tick(begin+29+40*dayLong), 40)
		wantRefused(t, d, tick(begin+30+40*dayLong), api.ErrFull)
	}
}

// ErrRange for what is no time comes ahead of ErrState, that ahead of ErrRange for what is too far, and that ahead of ErrFull.
func TestWhichErrorOfATick(t *testing.T) {
	loud := repeated(t, "a", 1, 0, "daily", api.Alarm{}, api.Alarm{Offset: 1})
	d := running(t, lastTime-2*mostSpan, loud)
	now := d.Now()
	for _, n := range []int{math.MinInt, -1, 0, lastTime + 1, math.MaxInt} {
		wantRefused(t, d, tick(n), api.ErrRange)
	}
	for _, n := range []int{1, now - mostSpan - 1, now - 1, now} {
		wantRefused(t, d, tick(n), api.ErrState)
	}
	wantRefused(t, d, tick(now+mostSpan+1), api.ErrRange)
	wantRefused(t, d, tick(lastTime), api.ErrRange)
	wantRefused(t, d, tick(now+mostSpan), api.ErrFull)
	wantMany(t, d, tick(now+200*dayLong), mostRings)
	for _, n := range []int{now, now + 200*dayLong} {
		wantRefused(t, d, tick(n), api.ErrState)
	}
	wantRefused(t, d, tick(now+200*dayLong+mostSpan+1), api.ErrRange)
	wantRefused(t, d, tick(now+200*dayLong+mostSpan), api.ErrFull)
}
