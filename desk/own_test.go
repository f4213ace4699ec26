package desk_test

import (
	"reflect"
	"slices"
	"testing"

	"chimework/api"
	"chimework/desk"
)

// roomy makes a list anew, with others behind its length.
func roomy[T any](list []T, behind ...T) []T {
	return slices.Concat(list, behind)[:len(list)]
}

// crowded makes a zone and an event all of whose lists have things behind their length that are no matter of a call.
func crowded(t *testing.T) (api.Zone, api.Event) {
	t.Helper()
	e := repeated(t, "a", begin+570, 90, "monthly months 1,3,11,12 days 1,2,16,17,18 on mo,tu,we,th,fr pick -1,1,2")
	e.Text = "a text"
	e.Rule.Months = roomy(e.Rule.Months, 13)
	e.Rule.Days = roomy(e.Rule.Days, 32)
	e.Rule.Weeks = roomy(e.Rule.Weeks, api.Nth{N: 9, Weekday: 9})
	e.Rule.Pick = roomy(e.Rule.Pick, 0, -7)
	e.More = roomy([]int{begin + 570, begin + 571, begin + 10400}, 1, 2, 3)
	e.Not = roomy([]int{begin + 2010, begin + 10401}, begin+570, begin+571)
	e.Changes = roomy([]api.Change{{At: begin + 570, To: begin + 10399}, {At: begin + 571}}, api.Change{At: begin + 10400}, api.Change{At: -7, To: -7})
	e.Alarms = roomy([]api.Alarm{{Offset: 10}, {Offset: -90, End: true, Repeat: 1, Between: 11}}, api.Alarm{Offset: 1}, api.Alarm{Repeat: -7})
	z := zoneOf(60, begin-700000, 0, begin+5400, -30)
	z.Shifts = roomy(z.Shifts, api.Shift{At: begin + 5400, Ahead: 30}, api.Shift{At: -7})
	return z, e
}

// fill a list, and what lies behind its length, with something else.
func fill[T any](list []T, with T) {
	list = list[:cap(list)]
	for i := range list {
		list[i] = with
	}
}

// writeOver all lists of a zone and of an event.
func writeOver(z api.Zone, e api.Event) {
	fill(z.Shifts, api.Shift{At: begin + 20, Ahead: 7})
	fill(e.Rule.Months, 5)
	fill(e.Rule.Days, 7)
	fill(e.Rule.Weeks, api.Nth{Weekday: 7})
	fill(e.Rule.Pick, 3)
	fill(e.More, begin+40)
	fill(e.Not, begin+570)
	fill(e.Changes, api.Change{At: begin + 10400, To: begin + 3})
	fill(e.Alarms, api.Alarm{Offset: 2})
}

func wholeList[T any](list []T) []T { return slices.Clone(list[:cap(list)]) }

// whole copies a zone and an event, and what lies behind the length of their lists.
func whole(z api.Zone, e api.Event) (api.Zone, api.Event) {
	z.Shifts = wholeList(z.Shifts)
	e.Rule.Months, e.Rule.Days, e.Rule.Weeks, e.Rule.Pick = wholeList(e.Rule.Months), wholeList(e.Rule.Days), wholeList(e.Rule.Weeks), wholeList(e.Rule.Pick)
	e.More, e.Not, e.Changes, e.Alarms = wholeList(e.More), wholeList(e.Not), wholeList(e.Changes), wholeList(e.Alarms)
	return z, e
}

// ofCrowded are the rings of crowded for 10443 minutes from begin on.
func ofCrowded() []api.Ring {
	of := func(at, which, number, turn int) api.Ring {
		return api.Ring{At: begin + at, Name: "a", Which: begin + which, Alarm: number, Turn: turn}
	}
	return list(
		of(3450, 3450, 1, 0), of(3460, 3450, 0, 0), of(3461, 3450, 1, 1),
		of(10429, 570, 1, 0), of(10430, 10400, 1, 0), of(10439, 570, 0, 0), of(10440, 570, 1, 1), of(10440, 10400, 0, 0), of(10441, 10400, 1, 1),
	)
}

// What is handed in is not changed by any call.
func TestNothingIsChanged(t *testing.T) {
	z, e := crowded(t)
	zoneBefore, before := whole(z, e)
	d := madeIn(t, z)
	wantDone(t, d, put(e))
	wantDone(t, d, tick(begin))
	wantDone(t, d, tick(begin+10443), ofCrowded()...)
	wantDone(t, d, put(e))
	wantDone(t, d, drop("a"))
	e.Name = "b"
	wantDone(t, d, put(e))
	wantDone(t, d, tick(begin+20000))
	e.Length = -1
	wantRefused(t, d, put(e), api.ErrRange)
	e.Name, e.Length = "a", 90
	if zoneAfter, after := whole(z, e); !reflect.DeepEqual(zoneAfter, zoneBefore) || !reflect.DeepEqual(after, before) {
		t.Errorf("it was changed: %+v, %+v, it was %+v, %+v", zoneAfter, after, zoneBefore, before)
	}
}

// What is handed in is not kept: it may be written over behind the call, and the desk answers as it would have.
func TestNothingIsKept(t *testing.T) {
	zone, event := crowded(t)
	want := ofCrowded()
	for when := range 4 {
		z, e := whole(zone, event)
		z.Shifts, e.More, e.Not = z.Shifts[:len(zone.Shifts)], e.More[:len(event.More)], e.Not[:len(event.Not)]
		e.Rule.Months, e.Rule.Days = e.Rule.Months[:len(event.Rule.Months)], e.Rule.Days[:len(event.Rule.Days)]
		e.Rule.Weeks, e.Rule.Pick = e.Rule.Weeks[:len(event.Rule.Weeks)], e.Rule.Pick[:len(event.Rule.Pick)]
		e.Changes, e.Alarms = e.Changes[:len(event.Changes)], e.Alarms[:len(event.Alarms)]
		overIf := func(now int) {
			if now == when {
				writeOver(z, e)
			}
		}
		d := madeIn(t, z)
		if when == 0 {
			writeOver(z, api.Event{})
		}
		wantDone(t, d, put(e))
		overIf(0)
		overIf(1)
		wantDone(t, d, tick(begin))
		overIf(2)
		wantDone(t, d, tick(begin+10430), want[:5]...)
		overIf(3)
		wantDone(t, d, tick(begin+10443), want[5:]...)
	}
}

// spoil all that a list has, and what lies behind its length.
func spoil(list []api.Ring) {
	fill(append(list, api.Ring{At: -7}), api.Ring{At: -7, Name: "x", Which: -7, Alarm: -7, Turn: -7})
	fill(list, api.Ring{At: -7, Name: "x", Which: -7, Alarm: -7, Turn: -7})
}

// spoilAll that a desk tells.
func spoilAll(d *desk.Desk) {
	spoil(d.Rung())
	spoil(d.Snoozed())
	names := d.Names()
	fill(append(names, "x"), "x")
	fill(names, "x")
}

// What is told is the caller's: what is done to it does nothing to the desk, nor to what it tells else.
func TestToldIsTheCallers(t *testing.T) {
	way := func(meddle func(*desk.Desk, []api.Ring)) (all [][]api.Ring, at []held) {
		d := running(t, begin, crowd(5)...)
		for n := begin + 1; n <= begin+40; n++ {
			got, err := d.Do(tick(n))
			if err != nil {
				t.Fatal(err)
			}
			all = append(all, slices.Clone(got))
			meddle(d, got)
			rung := d.Rung()
			for i, r := range rung {
				if i%3 == 0 {
					wantDone(t, d, snooze(r, 1+(n+i)%7))
				} else if i%7 == 1 {
					wantDone(t, d, done(r))
				}
			}
			meddle(d, nil)
			at = append(at, heldBy(d))
		}
		return all, at
	}
	want, held := way(func(*desk.Desk, []api.Ring) {})
	got, other := way(func(d *desk.Desk, list []api.Ring) {
		spoil(list)
		spoilAll(d)
	})
	if !reflect.DeepEqual(got, want) || !reflect.DeepEqual(other, held) {
		t.Errorf("the desk was changed through what it told: got %v, want %v", got, want)
	}
}

// What is done to the desk does nothing to what it told.
func TestToldStays(t *testing.T) {
	d := running(t, begin, crowd(5)...)
	var all, want [][]api.Ring
	var names []string
	keep := func(lists ...[]api.Ring) {
		for _, l := range lists {
			all, want = append(all, l), append(want, slices.Clone(l))
		}
	}
	for n := begin + 1; n <= begin+30; n++ {
		got, err := d.Do(tick(n))
		if err != nil {
			t.Fatal(err)
		}
		keep(got, d.Rung(), d.Snoozed())
		names = d.Names()
		for i, r := range d.Rung() {
			if i%2 == n%2 {
				wantDone(t, d, snooze(r, 1+i%5))
			} else if i%5 == 0 {
				wantDone(t, d, done(r))
			}
		}
		keep(d.Rung(), d.Snoozed())
	}
	wantDone(t, d, drop("ea"))
	wantDone(t, d, put(once("aa", begin, 0)))
	wantDone(t, d, tick(begin+100), d.Snoozed()...)
	if !reflect.DeepEqual(all, want) || !slices.Equal(names, namesOf(5)) {
		t.Errorf("what was told is changed: got %v, %v, want %v", names, all, want)
	}
}

// Two desks do not touch one another, though the same events are put to both.
func TestTwoDesks(t *testing.T) {
	e, z := once("a", begin+10, 0, api.Alarm{}), zoneOf(5)
	a, b := made(t), madeIn(t, z)
	wantDone(t, a, put(e))
	wantNames(t, b, "")
	wantRefused(t, b, drop("a"), api.ErrNone)
	wantDone(t, b, put(e))
	wantDone(t, a, tick(begin))
	wantNow(t, b, 0)
	wantDone(t, b, tick(begin+1))
	wantNow(t, a, begin)
	ofA, ofB := bell("a", begin+10), moved(bell("a", begin+10), begin+5)
	wantDone(t, a, tick(begin+10), ofA)
	wantRung(t, b)
	wantRefused(t, b, done(ofA), api.ErrNone)
	wantDone(t, b, tick(begin+20), ofB)
	wantRung(t, a, ofA)
	wantDone(t, a, snooze(ofA, 15))
	wantSnoozed(t, b)
	wantRung(t, b, ofB)
	wantDone(t, b, snooze(ofB, 5))
	wantSnoozed(t, a, moved(ofA, begin+25))
	wantSnoozed(t, b, moved(ofB, begin+25))
	wantDone(t, b, drop("a"))
	wantSnoozed(t, a, moved(ofA, begin+25))
	wantNames(t, a, "a")
	wantDone(t, a, tick(begin+30), moved(ofA, begin+25))
	wantNow(t, b, begin+20)
	// One that is full leaves the other one its room.
	full, other := fullDesk(t), made(t)
	wantRefused(t, full, put(e), api.ErrFull)
	wantDone(t, other, put(e))
	wantNames(t, other, "a")
}

// Asking what there is changes nothing, and the same asks of two desks are answered in the same way.
func TestTheSameAgain(t *testing.T) {
	way := func(looks int) (all [][]api.Ring) {
		d := running(t, begin, crowd(6)...)
		for n := begin + 2; n <= begin+30; n += 3 {
			got, _ := d.Do(tick(n))
			for range looks {
				heldBy(d)
			}
			all = append(all, got, d.Rung(), d.Snoozed())
			for i, r := range got {
				if i%2 == 0 {
					wantDone(t, d, snooze(r, 2))
				}
			}
		}
		return all
	}
	want := way(0)
	for looks := range 5 {
		if got := way(looks); !reflect.DeepEqual(got, want) {
			t.Errorf("got %v, want %v", got, want)
		}
	}
}
