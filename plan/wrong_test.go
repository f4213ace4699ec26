package plan_test

import (
	"slices"
	"testing"

	"chimework/api"
)

// rising lists so many numbers, each by so much above the one ahead.
func rising(first, by, many int) []int {
	var list []int
	for i := range many {
		list = append(list, first+i*by)
	}
	return list
}

// wrongZones by the error that each of them has.
func wrongZones() map[api.Errno][]api.Zone {
	full := zoneOf(0)
	for i := range 21 {
		full.Shifts = append(full.Shifts, api.Shift{At: 1 + i*dayLong})
	}
	return map[api.Errno][]api.Zone{
		api.ErrFull:  {full},
		api.ErrRange: {zoneOf(901), zoneOf(-901), zoneOf(0, 0, 60), zoneOf(0, lastTime+1, 60), zoneOf(0, begin, 901)},
		api.ErrClash: {zoneOf(0, begin, 60, begin+1439, 0)},
	}
}

// wrongEvents by the error that each of them has.
func wrongEvents() map[api.Errno][]api.Event {
	spoilt := func(spoil func(*api.Event)) api.Event {
		e := once(begin, 10)
		spoil(&e)
		return e
	}
	daily := api.Rule{Freq: api.Daily, Every: 1}
	return map[api.Errno][]api.Event{
		api.ErrSyntax: {
			spoilt(func(e *api.Event) { e.Name = "" }),
			spoilt(func(e *api.Event) { e.Name = "abcdefghi" }),
			spoilt(func(e *api.Event) { e.Text = "\n" }),
		},
		api.ErrRange: {
			spoilt(func(e *api.Event) { e.Start = 0 }),
			spoilt(func(e *api.Event) { e.Start = lastTime + 1 }),
			spoilt(func(e *api.Event) { e.Length = -1 }),
			spoilt(func(e *api.Event) { e.Length = 100001 }),
			spoilt(func(e *api.Event) { e.Repeats = true }),
			spoilt(func(e *api.Event) { e.More = []int{0} }),
			spoilt(func(e *api.Event) { e.Alarms = []api.Alarm{{Offset: 100001}} }),
		},
		api.ErrShape: {
			spoilt(func(e *api.Event) { e.Rule = daily }),
			spoilt(func(e *api.Event) {
				e.Repeats, e.Rule = true, api.Rule{Freq: api.Daily, Every: 1, Count: 1, Until: 46341}
			}),
		},
		api.ErrFull: {
			spoilt(func(e *api.Event) { e.More = rising(begin+2*longest, 1, mostList+1) }),
			spoilt(func(e *api.Event) { e.Alarms = make([]api.Alarm, 5) }),
		},
		api.ErrClash: {
			spoilt(func(e *api.Event) { e.Not = []int{begin, begin} }),
			spoilt(func(e *api.Event) { e.Changes = []api.Change{{At: begin + 1}, {At: begin}} }),
		},
	}
}

// eachWrong goes over wrong events and their errors.
func eachWrong(do func(e api.Event, told api.Errno)) {
	for told, events := range wrongEvents() {
		for _, e := range events {
			do(e, told)
		}
	}
}

// Alone, and behind others that are right.
func TestWrongEvents(t *testing.T) {
	eachWrong(func(e api.Event, told api.Errno) {
		for many := range mostEvents {
			l := append(some(many, 1), e)
			wantRefused(t, zoneOf(0), l, begin, begin+100, told)
			wantNoLoad(t, l, 2026, 11, told)
			if many < mostEvents-1 {
				l = append(l, once(begin, 10))
				wantRefused(t, zoneOf(0), l, begin, begin+100, told)
				wantNoLoad(t, l, 2026, 11, told)
			}
		}
		// Not only where it would be in the stretch, or the month.
		wantRefused(t, zoneOf(0), []api.Event{e}, 1, 1, told)
		wantNoLoad(t, []api.Event{e}, 1900, 1, told)
	})
}

func TestWrongZones(t *testing.T) {
	for told, zones := range wrongZones() {
		for _, z := range zones {
			for _, l := range [][]api.Event{each(0, 10), each(0, 10, 5, 10), some(mostEvents, 3)} {
				wantRefused(t, z, l, begin, begin+100, told)
				wantRefused(t, z, l, begin+1000, begin+1000, told)
			}
		}
	}
}

// Too many of them is told ahead of all that is wrong with them, with the zone and with the stretch.
func TestTooManyAheadOfWrongOnes(t *testing.T) {
	eachWrong(func(e api.Event, _ api.Errno) {
		for _, place := range []int{0, 7, mostEvents} {
			l := some(mostEvents+1, 1)
			l[place] = e
			wantRefused(t, zoneOf(0), l, begin, begin+100, api.ErrFull)
			wantRefused(t, zoneOf(901), l, begin, begin+100, api.ErrFull)
			wantRefused(t, zoneOf(0), l, begin, begin-1, api.ErrFull)
			wantRefused(t, zoneOf(901), l, 0, lastTime+1, api.ErrFull)
			wantNoLoad(t, l, 2026, 11, api.ErrFull)
			wantNoLoad(t, l, 2026, 0, api.ErrRange)
			wantNoLoad(t, l, 1899, 11, api.ErrRange)
			wantNoLoad(t, l[place:place+1], 2026, 13, api.ErrRange)
			wantNoLoad(t, l[place:place+1], 2200, 1, api.ErrRange)
		}
	})
}

// Of two wrong ones the first is told.
func TestFirstWrongEventIsTold(t *testing.T) {
	eachWrong(func(a api.Event, first api.Errno) {
		eachWrong(func(b api.Event, second api.Errno) {
			for _, l := range [][]api.Event{{a, b}, {once(begin, 10), a, b}, {a, once(begin, 10), b, a}} {
				wantRefused(t, zoneOf(0), l, begin, begin+100, first)
				wantNoLoad(t, l, 2026, 11, first)
			}
		})
	})
}

// Of each event itself, then the zone, then the stretch; and all that ahead of the next event.
func TestEventZoneAndStretch(t *testing.T) {
	stretches := [][2]int{{begin, begin + 100}, {0, begin}, {begin, lastTime + 1}, {begin, begin - 1}, {begin, begin + longest + 1}}
	for _, s := range stretches {
		eachWrong(func(e api.Event, told api.Errno) {
			wantRefused(t, zoneOf(0), []api.Event{e}, s[0], s[1], told)
			want := told
			if s != stretches[0] {
				want = api.ErrRange
			}
			wantRefused(t, zoneOf(0), []api.Event{once(begin, 10), e}, s[0], s[1], want)
			for ofZone, zones := range wrongZones() {
				for _, z := range zones {
					wantRefused(t, z, []api.Event{e}, s[0], s[1], told)
					wantRefused(t, z, []api.Event{e, once(begin, 10)}, s[0], s[1], told)
					wantRefused(t, z, []api.Event{once(begin, 10), e}, s[0], s[1], ofZone)
				}
			}
		})
	}
}

// Too many Times of one event are told in its turn; too many together behind all events.
func TestTooManyTimesAndWrongEvents(t *testing.T) {
	to := begin + 400*dayLong
	over, many := repeated(t, begin, 1, "daily"), repeated(t, begin, 1, "daily count 200")
	eachWrong(func(e api.Event, told api.Errno) {
		wantRefused(t, zoneOf(0), []api.Event{over, e}, begin, to, api.ErrFull)
		wantRefused(t, zoneOf(0), []api.Event{once(begin, 1), over, e}, begin, to, api.ErrFull)
		wantRefused(t, zoneOf(0), []api.Event{e, over}, begin, to, told)
		wantRefused(t, zoneOf(0), []api.Event{many, many, e}, begin, to, told)
		wantRefused(t, zoneOf(0), []api.Event{e, many, many}, begin, to, told)
		wantRefused(t, zoneOf(0), []api.Event{many, e, many}, begin, to, told)
		wantRefused(t, zoneOf(0), []api.Event{many, many, over, e}, begin, to, api.ErrFull)
	})
	wantRefused(t, zoneOf(901), []api.Event{over}, begin, to, api.ErrRange)
	wantRefused(t, zoneOf(901), []api.Event{many, many}, begin, to, api.ErrRange)
}

// As many zones as lists comes first, then how many lists, then list by list.
func TestWhichErrorOfMeet(t *testing.T) {
	fine := each(0, 10)
	eachWrong(func(e api.Event, told api.Errno) {
		zones, l := make([]api.Zone, mostEvents+2), make([][]api.Event, mostEvents+2)
		for i := range l {
			l[i] = []api.Event{e}
		}
		for _, length := range []int{10, 0} {
			wantNoMeet(t, zones[:mostEvents], l[:mostEvents+1], begin, begin+100, length, api.ErrShape)
			wantNoMeet(t, zones[:mostEvents+2], l[:mostEvents+1], begin, begin+100, length, api.ErrShape)
			wantNoMeet(t, nil, l[:1], begin, begin+100, length, api.ErrShape)
			wantNoMeet(t, zones[:1], nil, begin, begin+100, length, api.ErrShape)
			wantNoMeet(t, zones[:1], l[:2], 0, begin+100, length, api.ErrShape)
			wantNoMeet(t, zones[:mostEvents+1], l[:mostEvents+1], begin, begin+100, length, api.ErrFull)
			wantNoMeet(t, zones[:mostEvents+1], l[:mostEvents+1], begin, begin-1, length, api.ErrFull)
			wantNoMeet(t, zones[:mostEvents], l[:mostEvents], begin, begin+100, length, told)
			wantNoMeet(t, zones[:2], [][]api.Event{fine, {e}}, begin, begin+100, length, told)
			wantNoMeet(t, zones[:2], [][]api.Event{nil, {once(begin, 10), e}}, begin, begin-1, length, api.ErrRange)
			wantNoMeet(t, zones[:2], [][]api.Event{nil, {e}}, begin, begin-1, length, told)
			wantNoMeet(t, []api.Zone{zoneOf(0), zoneOf(901)}, [][]api.Event{{e}, fine}, begin, begin+100, length, told)
			wantNoMeet(t, []api.Zone{zoneOf(0, begin, 0, begin, 0), zoneOf(0)}, [][]api.Event{fine, {e}}, begin, begin+100, length, api.ErrClash)
			wantNoMeet(t, []api.Zone{zoneOf(901), zoneOf(0)}, [][]api.Event{nil, {e}}, begin, begin+100, length, told)
		}
	})
}

// Of the first list all of Busy's errors, also those of all its events together, are told ahead of the second list's.
func TestFirstListIsTold(t *testing.T) {
	to := begin + 400*dayLong
	many := repeated(t, begin, 1, "daily count 200")
	zones := []api.Zone{zoneOf(0), zoneOf(60)}
	eachWrong(func(e api.Event, told api.Errno) {
		for _, full := range [][]api.Event{{many, many}, some(mostEvents+1, 1), {repeated(t, begin, 1, "daily")}} {
			for _, length := range []int{10, 0} {
				wantNoMeet(t, zones, [][]api.Event{full, {e}}, begin, to, length, api.ErrFull)
				wantNoMeet(t, zones, [][]api.Event{{e}, full}, begin, to, length, told)
			}
		}
		eachWrong(func(other api.Event, _ api.Errno) {
			wantNoMeet(t, zones, [][]api.Event{{e}, {other}}, begin, to, 10, told)
		})
	})
	// One list after the other may be full, not both together.
	wantMeet(t, zones, [][]api.Event{{many}, {many}}, begin, to, 10, begin+1)
}

// Busy's errors come ahead of Slot's; of Slot's the stretch comes ahead of the length, and that ahead of there being none.
func TestBusyAheadOfSlot(t *testing.T) {
	zones, taken := []api.Zone{zoneOf(0)}, [][]api.Event{each(0, 100)}
	wantNoMeet(t, zones, taken, begin, begin-1, 10, api.ErrRange)
	wantNoMeet(t, zones, [][]api.Event{nil}, begin, begin-1, 10, api.ErrShape)
	wantNoMeet(t, zones, [][]api.Event{nil}, begin, begin-1, 0, api.ErrShape)
	wantNoMeet(t, zones, [][]api.Event{nil}, begin, 0, 0, api.ErrRange)
	wantNoMeet(t, zones, [][]api.Event{nil}, begin, begin, 0, api.ErrRange)
	wantNoMeet(t, zones, [][]api.Event{nil}, begin, begin, 1, api.ErrNone)
	wantNoMeet(t, zones, taken, begin, begin+100, 0, api.ErrRange)
	wantNoMeet(t, zones, taken, begin, begin+100, longest+1, api.ErrRange)
	wantNoMeet(t, zones, taken, begin, begin+100, 1, api.ErrNone)
	wantNoMeet(t, slices.Concat(zones, zones), [][]api.Event{nil, each(0, 100)}, begin, begin-1, 10, api.ErrRange)
}
