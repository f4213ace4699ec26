package log_test

import (
	"math"
	"reflect"
	"slices"
	"testing"

	"chimework/api"
	"chimework/log"
)

// roomy makes a list anew, with others behind its length.
func roomy[T any](list []T, behind ...T) []T {
	return slices.Concat(list, behind)[:len(list)]
}

// crowded makes a zone and an event all of whose lists have things behind their length that are no matter of a call.
func crowded() (api.Zone, api.Event) {
	e := fullest()
	e.Name = "a"
	e.Rule.Months = roomy(e.Rule.Months, 13)
	e.Rule.Days = roomy(e.Rule.Days, 32)
	e.Rule.Weeks = roomy(e.Rule.Weeks, api.Nth{N: 9, Weekday: 9})
	e.Rule.Pick = roomy(e.Rule.Pick, 0, -7)
	e.More = roomy(e.More, 1, 2, 3)
	e.Not = roomy(e.Not, begin+570, begin+571)
	e.Changes = roomy(e.Changes, api.Change{At: begin + 10400}, api.Change{At: -7, To: -7})
	e.Alarms = roomy(e.Alarms, api.Alarm{Offset: 1}, api.Alarm{Repeat: -7})
	z := zoneOf(60, api.Shift{At: begin - 700000}, api.Shift{At: begin + 5400, Ahead: -30})
	z.Shifts = roomy(z.Shifts, api.Shift{At: begin + 5400, Ahead: 30}, api.Shift{At: -7})
	return z, e
}

// fill a list, and what lies behind its length, with something else.
func fill[T any](list []T, with T) {
	list = list[:cap(list)]
	for i := range list {
		list[i] = with
	}
}

// writeOver all lists of a zone and of an event.
func writeOver(z api.Zone, e api.Event) {
	fill(z.Shifts, api.Shift{At: begin + 20, Ahead: 7})
	fill(e.Rule.Months, 5)
	fill(e.Rule.Days, 7)
	fill(e.Rule.Weeks, api.Nth{Weekday: 7})
	fill(e.Rule.Pick, 3)
	fill(e.More, begin+40)
	fill(e.Not, begin+570)
	fill(e.Changes, api.Change{At: begin + 10400, To: begin + 3})
	fill(e.Alarms, api.Alarm{Offset: 2})
}

func wholeList[T any](list []T) []T { return slices.Clone(list[:cap(list)]) }

// whole copies a zone and an event, and what lies behind the length of their lists.
func whole(z api.Zone, e api.Event) (api.Zone, api.Event) {
	z.Shifts = wholeList(z.Shifts)
	e.Rule.Months, e.Rule.Days, e.Rule.Weeks, e.Rule.Pick = wholeList(e.Rule.Months), wholeList(e.Rule.Days), wholeList(e.Rule.Weeks), wholeList(e.Rule.Pick)
	e.More, e.Not, e.Changes, e.Alarms = wholeList(e.More), wholeList(e.Not), wholeList(e.Changes), wholeList(e.Alarms)
	return z, e
}

// What is handed in is not changed by any call, done or with an error, nor by the step that stops.
func TestNothingIsChanged(t *testing.T) {
	z, e := crowded()
	zoneBefore, before := whole(z, e)
	l := logOf(t, z, put(e), tick(begin))
	wantSync(t, l)
	doAll(t, l, tick(begin+3000), drop("a"), put(e))
	l.Crash(math.MaxInt)
	l.Fail(1)
	wrong := e
	wrong.Length = -1
	wantRefused(t, l, put(wrong), api.ErrRange)
	doAll(t, l, tick(begin+3001))
	if _, err := l.Do(put(e)); err == nil {
		t.Fatal("it does not stop")
	}
	wantRefused(t, l, put(e), api.ErrState)
	l.Crash(math.MaxInt)
	if zoneAfter, after := whole(z, e); !reflect.DeepEqual(zoneAfter, zoneBefore) || !reflect.DeepEqual(after, before) {
		t.Errorf("it was changed: %+v, %+v, it was %+v, %+v", zoneAfter, after, zoneBefore, before)
	}
}

// What is handed in is not kept: it may be written over behind the call, and the log answers as it would have, behind a Crash, too.
func TestNothingIsKept(t *testing.T) {
	zone, event := crowded()
	want := deskOf(t, zone, put(event), tick(begin-100000))
	for when := range 4 {
		z, e := crowded()
		overIf := func(now int) {
			if now == when {
				writeOver(z, e)
			}
		}
		l := madeIn(t, z)
		fill(z.Shifts, api.Shift{At: begin + 20, Ahead: 7})
		doAll(t, l, put(e))
		overIf(0)
		wantSync(t, l)
		overIf(1)
		l.Crash(0)
		overIf(2)
		doAll(t, l, tick(begin-100000))
		l.Crash(math.MaxInt)
		overIf(3)
		wantHeld(t, l, want)
		d := deskOf(t, zone, put(event), tick(begin-100000))
		for n := begin - 99999; n < begin+200000; n += 7000 {
			wantSame(t, l, d, tick(n))
			l.Crash(math.MaxInt)
			wantHeld(t, l, d)
		}
		if len(d.Rung()) < 100 {
			t.Fatalf("only %d rings have rung", len(d.Rung()))
		}
	}
}

// spoil all that a list has, and what lies behind its length.
func spoil(list []api.Ring) {
	fill(append(list, api.Ring{At: -7}), api.Ring{At: -7, Name: "x", Which: -7, Alarm: -7, Turn: -7})
	fill(list, api.Ring{At: -7, Name: "x", Which: -7, Alarm: -7, Turn: -7})
}

// spoilAll that a log's desk tells.
func spoilAll(l *log.Log) {
	spoil(l.Desk().Rung())
	spoil(l.Desk().Snoozed())
	names := l.Desk().Names()
	fill(append(names, "x"), "x")
	fill(names, "x")
}

// What is told is the caller's: what is done to it does nothing to the log, and what the log does nothing to it.
func TestToldIsTheCallers(t *testing.T) {
	z, asks := story(t)
	l, d := madeIn(t, z), deskOf(t, z)
	var all, want [][]api.Ring
	for i, a := range asks {
		again, _ := d.Do(a)
		got, err := l.Do(a)
		if err != nil || !slices.Equal(got, again) {
			t.Fatalf("Do(%+v): got %v, %v, want %v", a, got, err, again)
		}
		if i%2 == 0 {
			spoil(got)
			spoilAll(l)
		} else {
			for _, list := range [][]api.Ring{got, l.Desk().Rung(), l.Desk().Snoozed()} {
				all, want = append(all, list), append(want, slices.Clone(list))
			}
		}
		wantHeld(t, l, d)
		l.Crash(math.MaxInt)
		wantHeld(t, l, d)
	}
	l.Crash(0)
	l.Fail(0)
	wantNoSync(t, l)
	if !reflect.DeepEqual(all, want) {
		t.Errorf("what was told is changed: got %v, want %v", all, want)
	}
}

// Two logs do not touch one another, though the same events are put to both.
func TestTwoLogs(t *testing.T) {
	z, asks := story(t)
	a, b := madeIn(t, z), madeIn(t, z)
	doAll(t, a, asks...)
	bytes := a.Bytes()
	wantSize(t, b, 0, 0)
	wantHeld(t, b, deskOf(t, z))
	doAll(t, b, asks[:5]...)
	wantSize(t, a, bytes, 0)
	wantSync(t, b)
	wantSize(t, a, bytes, 0)
	a.Fail(0)
	doAll(t, b, asks[5])
	wantNoSync(t, a)
	wantSync(t, b)
	wantStopped(t, a)
	doAll(t, b, asks[6])
	a.Crash(0)
	wantSize(t, a, 0, 0)
	wantHeld(t, b, deskOf(t, z, asks[:7]...))
	b.Fail(0)
	doAll(t, a, asks[:3]...)
	wantStops(t, b, asks[7], sizeOf(t, z, asks[:7], asks[7]))
	doAll(t, a, asks[3:]...)
	wantStopped(t, b)
	wantHeld(t, a, deskOf(t, z, asks...))
	b.Crash(math.MaxInt)
	wantSize(t, a, bytes, 0)
	wantLeft(t, b, z, asks, 7, b.Bytes())
}
