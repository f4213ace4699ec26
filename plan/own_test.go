package plan_test

import (
	"reflect"
	"slices"
	"testing"

	"chimework/api"
	"chimework/plan"
)

// roomy makes a list anew, with others behind its length.
func roomy[T any](list []T, behind ...T) []T {
	return slices.Concat(list, behind)[:len(list)]
}

// roomyEvent makes all lists of an event anew, with wrong ones behind their length.
func roomyEvent(e api.Event) api.Event {
	e.More = roomy(e.More, -7, begin, lastTime+1)
	e.Not = roomy(e.Not, -7, begin, begin)
	e.Changes = roomy(e.Changes, api.Change{At: -7, To: -7}, api.Change{At: begin})
	e.Alarms = roomy(e.Alarms, api.Alarm{Repeat: -7})
	e.Rule.Months = roomy(e.Rule.Months, 13, -7)
	e.Rule.Days = roomy(e.Rule.Days, 0, -7)
	e.Rule.Weeks = roomy(e.Rule.Weeks, api.Nth{N: 9, Weekday: 9})
	e.Rule.Pick = roomy(e.Rule.Pick, 0, -7)
	return e
}

// roomyEvents makes a list of such events, with wrong ones behind its length.
func roomyEvents(l []api.Event) []api.Event {
	var list []api.Event
	for _, e := range l {
		list = append(list, roomyEvent(e))
	}
	return roomy(list, api.Event{}, once(-7, -7))
}

func roomyZone(z api.Zone) api.Zone {
	z.Shifts = roomy(z.Shifts, api.Shift{At: -7, Ahead: -7}, api.Shift{At: begin, Ahead: 901})
	return z
}

func whole[T any](list []T) []T { return slices.Clone(list[:cap(list)]) }

// wholeEvents copies all of events, what lies behind the length of their lists too.
func wholeEvents(l []api.Event) []api.Event {
	list := whole(l)
	for i, e := range list {
		e.More, e.Not, e.Changes, e.Alarms = whole(e.More), whole(e.Not), whole(e.Changes), whole(e.Alarms)
		e.Rule.Months, e.Rule.Days, e.Rule.Weeks, e.Rule.Pick = whole(e.Rule.Months), whole(e.Rule.Days), whole(e.Rule.Weeks), whole(e.Rule.Pick)
		list[i] = e
	}
	return list
}

// handed is all that is handed in.
type handed struct {
	zones []api.Zone
	lists [][]api.Event
}

// wholeOf copies all that is handed in, and what lies behind it.
func wholeOf(h handed) handed {
	copied := handed{zones: whole(h.zones), lists: whole(h.lists)}
	for i, z := range copied.zones {
		copied.zones[i].Shifts = whole(z.Shifts)
	}
	for i, l := range copied.lists {
		copied.lists[i] = wholeEvents(l)
	}
	return copied
}

// handedIn makes what is handed in of lists of events, those that are right and those that are wrong, and what lies behind.
func handedIn(t *testing.T) []handed {
	busyOne := repeated(t, begin+570, 90, "monthly months 11,12 on mo,tu,we pick -1,1,2")
	busyOne.More = []int{begin + 3, begin + 600, begin + 9000}
	busyOne.Not = []int{begin + 600, begin + 2010}
	busyOne.Changes = []api.Change{{At: begin + 3}, {At: begin + 570, To: begin + 700}, {At: begin + 9000, To: begin + 100}}
	busyOne.Alarms = []api.Alarm{{Offset: -10}, {Offset: 5, End: true, Repeat: 1, Between: 5}}
	yearly := repeated(t, begin, 90, "yearly months 11 days -1,16")
	var all []handed
	lists := [][]api.Event{nil, {busyOne}, {busyOne, yearly, once(begin+650, 100)}, some(mostEvents, 3), some(mostEvents+1, 3)}
	eachWrong(func(e api.Event, _ api.Errno) { lists = append(lists, []api.Event{busyOne, e, yearly}) })
	for _, l := range lists {
		for _, z := range []api.Zone{zoneOf(0), zoneOf(120, begin-5000, 60, begin+5000, 0), zoneOf(901, begin, 0)} {
			all = append(all, handed{
				zones: roomy([]api.Zone{roomyZone(z), roomyZone(zoneOf(60))}, zoneOf(901)),
				lists: roomy([][]api.Event{roomyEvents(l), roomyEvents(lists[2])}, []api.Event{{}}),
			})
		}
	}
	return all
}

// answers of all calls.
type answers struct {
	taken   []api.Busy
	clashes [][2]int
	load    []int
	meet    int
	errors  [4]error
}

// ask all calls.
func ask(h handed) answers {
	var a answers
	a.taken, a.errors[0] = plan.Busy(h.zones[0], h.lists[0], begin, begin+20*dayLong)
	a.clashes, a.errors[1] = plan.Clashes(h.zones[0], h.lists[0], begin, begin+20*dayLong)
	a.load, a.errors[2] = plan.Load(h.lists[0], 2026, 11)
	a.meet, a.errors[3] = plan.Meet(h.zones, h.lists, begin, begin+20*dayLong, 400)
	return a
}

// spoil an answer, and what lies behind its length.
func spoil[T any](list []T, with T) {
	list = list[:cap(list)]
	for i := range list {
		list[i] = with
	}
}

// Nothing that is handed in is changed, nor what lies behind the length of a list, which is not looked at either.
func TestNothingIsChanged(t *testing.T) {
	for i, h := range handedIn(t) {
		before := wholeOf(h)
		got := ask(h)
		if !reflect.DeepEqual(wholeOf(h), before) {
			t.Fatalf("%d: what was handed in is changed", i)
		}
		tight := handed{slices.Clip(slices.Clone(h.zones)), slices.Clip(slices.Clone(h.lists))}
		for k := range tight.lists {
			tight.zones[k].Shifts = slices.Clip(slices.Clone(tight.zones[k].Shifts))
			tight.lists[k] = tightEvents(tight.lists[k])
		}
		if want := ask(tight); !reflect.DeepEqual(got, want) {
			t.Fatalf("%d: what lies behind was looked at: got %v, want %v", i, got, want)
		}
	}
}

// tightEvents makes events with nothing behind the length of their lists.
func tightEvents(l []api.Event) []api.Event {
	list := slices.Clip(slices.Clone(l))
	for i, e := range list {
		e.More, e.Not, e.Changes, e.Alarms = slices.Clip(slices.Clone(e.More)), slices.Clip(slices.Clone(e.Not)), slices.Clip(slices.Clone(e.Changes)), slices.Clip(slices.Clone(e.Alarms))
		r := &e.Rule
		r.Months, r.Days, r.Weeks, r.Pick = slices.Clip(slices.Clone(r.Months)), slices.Clip(slices.Clone(r.Days)), slices.Clip(slices.Clone(r.Weeks)), slices.Clip(slices.Clone(r.Pick))
		list[i] = e
	}
	return list
}

// What is done to an answer does nothing to what was handed in, nor to other answers, earlier or later.
func TestAnswersAreTheCallers(t *testing.T) {
	for i, h := range handedIn(t) {
		before := wholeOf(h)
		earlier, want := ask(h), ask(h)
		want.taken, want.clashes, want.load = slices.Clone(want.taken), slices.Clone(want.clashes), slices.Clone(want.load)
		spoilt := ask(h)
		spoil(spoilt.taken, api.Busy{From: -7, To: -7})
		spoil(spoilt.clashes, [2]int{-7, -7})
		spoil(spoilt.load, -7)
		if !reflect.DeepEqual(wholeOf(h), before) {
			t.Fatalf("%d: an answer shares what was handed in", i)
		}
		for _, got := range []answers{earlier, ask(h)} {
			if !slices.Equal(got.taken, want.taken) || !slices.Equal(got.clashes, want.clashes) || !slices.Equal(got.load, want.load) || got.meet != want.meet || got.errors != want.errors {
				t.Fatalf("%d: an answer was changed by another one: got %v, want %v", i, got, want)
			}
		}
	}
}

// What is done later to what was handed in does nothing to what was answered.
func TestNothingIsKept(t *testing.T) {
	for i, h := range handedIn(t) {
		got, again := ask(h), ask(h)
		for k := range h.lists {
			spoil(h.zones[k].Shifts, api.Shift{At: -7})
			for _, e := range h.lists[k] {
				spoil(e.More, -7)
				spoil(e.Not, -7)
				spoil(e.Changes, api.Change{At: -7})
			}
			spoil(h.lists[k], api.Event{})
		}
		if !reflect.DeepEqual(got, again) {
			t.Fatalf("%d: got %v, want %v", i, got, again)
		}
	}
	// Nor does an earlier call, a wrong one among them, change a later one.
	fresh := handedIn(t)
	var first []answers
	for _, h := range fresh {
		first = append(first, ask(h))
	}
	for i, h := range slices.Backward(fresh) {
		if got := ask(h); !reflect.DeepEqual(got, first[i]) {
			t.Fatalf("%d: got %v, want %v", i, got, first[i])
		}
	}
}
