package alarm_test

import (
	"math"
	"reflect"
	"slices"
	"testing"

	"chimework/alarm"
	"chimework/api"
	"chimework/plain"
)

// wantRefused asks for an error, whatever stretch is given.
func wantRefused(t *testing.T, z api.Zone, e api.Event, want api.Errno) {
	t.Helper()
	for _, n := range []int{math.MinInt, -1, 0, 1, 66730170, lastTime, lastTime + 1, math.MaxInt} {
		wantNoRings(t, z, e, n, n, want)
	}
	wantNoRings(t, z, e, 2, 1, want)
	wantNoRings(t, z, e, 1, lastTime, want)
	wantNoRings(t, z, e, math.MinInt, math.MaxInt, want)
	wantNoRings(t, z, e, math.MaxInt, math.MinInt, want)
	wantNoRings(t, z, e, 66730170, 66730170+mostSpan, want)
}

func TestErrorsByNumber(t *testing.T) {
	loud := repeated(t, 1, 0, "daily", api.Alarm{})
	_, low := alarm.Rings(zoneOf(0), loud, 0, 1)
	_, high := alarm.Rings(zoneOf(0), loud, 1, lastTime+1)
	_, full := alarm.Rings(zoneOf(0), loud, 1, mostSpan)
	_, fine := alarm.Rings(zoneOf(0), loud, 1, 1)
	for _, c := range []struct {
		told error
		want int
	}{{low, 1}, {high, 1}, {full, 4}, {fine, 0}} {
		if int(plain.Told(c.told)) != c.want {
			t.Errorf("got %v, want the error %d", c.told, c.want)
		}
	}
}

// wrongEvents are ones of which chapter 8's Check tells something.
func wrongEvents(t *testing.T) map[api.Errno][]api.Event {
	rule := repeated(t, 66730170, 0, "daily", api.Alarm{})
	rule.Rule.Every = 51
	months := repeated(t, 66730170, 0, "daily", api.Alarm{})
	months.Rule.Months = []int{2, 1}
	return map[api.Errno][]api.Event{
		api.ErrSyntax: {{}, {Name: "A", Start: 66730170}, {Name: "aaaaaaaaa", Start: 66730170}, {Name: "a", Text: "\n", Start: 66730170}},
		api.ErrRange: {
			{Name: "a"}, once(lastTime+1, 0), once(1, -1), once(1, mostLength+1), rule,
			{Name: "a", Start: 1, More: []int{0}}, {Name: "a", Start: 1, Not: []int{lastTime + 1}}, {Name: "a", Start: 1, Changes: []api.Change{{At: 1, To: -1}}},
			once(1, 0, api.Alarm{Offset: mostOffset + 1}), once(1, 0, api.Alarm{Offset: -mostOffset - 1}), once(1, 0, api.Alarm{Repeat: -1}), once(1, 0, api.Alarm{Repeat: 6, Between: 1}),
			once(1, 0, api.Alarm{Between: 1}), once(1, 0, api.Alarm{Repeat: 1}), once(1, 0, api.Alarm{Repeat: 1, Between: mostBetween + 1}), once(1, 0, api.Alarm{Repeat: 1, Between: -1}),
			once(1, 0, api.Alarm{}, api.Alarm{}, api.Alarm{}, api.Alarm{Between: 1}),
		},
		api.ErrShape: {{Name: "a", Start: 1, Rule: api.Rule{Freq: api.Daily, Every: 1}}},
		api.ErrFull:  {{Name: "a", Start: 1, More: make([]int, 101)}, once(1, 0, make([]api.Alarm, 5)...)},
		api.ErrClash: {{Name: "a", Start: 1, More: []int{2, 2}}, {Name: "a", Start: 1, Changes: []api.Change{{At: 2}, {At: 1}}}, months},
	}
}

// wrongZones are ones of which chapter 7's Check tells something.
func wrongZones() map[api.Errno][]api.Zone {
	return map[api.Errno][]api.Zone{
		api.ErrFull: {{Shifts: make([]api.Shift, 21)}, {Ahead: 901, Shifts: make([]api.Shift, 21)}},
		api.ErrRange: {
			zoneOf(901), zoneOf(-901), zoneOf(math.MaxInt), zoneOf(math.MinInt), zoneOf(0, 0, 0), zoneOf(0, lastTime+1, 0), zoneOf(0, 1, 901), zoneOf(0, 1, -901),
			zoneOf(0, math.MinInt, 0), zoneOf(0, math.MaxInt, 0), zoneOf(0, 1, math.MinInt), zoneOf(0, 1, math.MaxInt),
		},
		api.ErrClash: {zoneOf(0, 5, 0, 1444, 0), zoneOf(0, 5, 0, 5, 0), zoneOf(0, 5000, 0, 1, 0)},
	}
}

// Chapter 8's Check is told ahead of chapter 7's, and both ahead of what is wrong with the numbers.
func TestWhichError(t *testing.T) {
	fine := []api.Event{once(66730170, 90), once(66730170, 90, api.Alarm{}), repeated(t, 66730170, 90, "daily", api.Alarm{Repeat: 5, Between: 1})}
	for told, events := range wrongEvents(t) {
		for _, e := range events {
			wantRefused(t, zoneOf(0), e, told)
			for _, zones := range wrongZones() {
				for _, z := range zones {
					wantRefused(t, z, e, told)
				}
			}
		}
	}
	for told, zones := range wrongZones() {
		for _, z := range zones {
			for _, e := range fine {
				wantRefused(t, z, e, told)
			}
		}
	}
}

// A number that is no time, in each place, also where an event has no alarm.
func TestNoTimes(t *testing.T) {
	far := []api.Alarm{{Offset: -mostOffset}, {Offset: mostOffset, End: true, Repeat: mostRepeat, Between: mostBetween}}
	for _, e := range []api.Event{once(66730170, 90), once(1, mostLength, far...), once(lastTime-mostLength, mostLength, far...), repeated(t, 1, 90, "daily", far...)} {
		for _, z := range []api.Zone{zoneOf(0), zoneOf(900), zoneOf(-900), zoneOf(900, 1, -900)} {
			for _, n := range noTimes {
				for _, is := range []int{1, 66730170, lastTime} {
					wantNoRings(t, z, e, n, is, api.ErrRange)
					wantNoRings(t, z, e, is, n, api.ErrRange)
				}
				for _, other := range noTimes {
					wantNoRings(t, z, e, n, other, api.ErrRange)
				}
			}
		}
	}
}

// ErrRange is told ahead of ErrFull.
func TestRangeAheadOfFull(t *testing.T) {
	loud := repeated(t, 1, 0, "daily", api.Alarm{Repeat: 5, Between: 1}, api.Alarm{Repeat: 5, Between: 1})
	wantNoRings(t, zoneOf(0), loud, 1, 1+mostSpan, api.ErrFull)
	wantNoRings(t, zoneOf(0), loud, 1, 2+mostSpan, api.ErrRange)
	wantNoRings(t, zoneOf(0), loud, 0, mostSpan, api.ErrRange)
	wantNoRings(t, zoneOf(0), loud, mostSpan, 1, api.ErrRange)
	wantNoRings(t, zoneOf(0), loud, lastTime-mostSpan, lastTime, api.ErrFull)
	wantNoRings(t, zoneOf(0), loud, lastTime-mostSpan+1, lastTime+1, api.ErrRange)
}

// Numbers at the ends of int, in every place of an event, are told, and nothing wraps round.
func TestFarNumbers(t *testing.T) {
	for _, n := range []int{math.MinInt, math.MinInt + 1, math.MaxInt - 1, math.MaxInt} {
		for _, change := range []func(*api.Event){
			func(e *api.Event) { e.Start = n },
			func(e *api.Event) { e.Length = n },
			func(e *api.Event) { e.Rule.Every = n },
			func(e *api.Event) { e.Rule.Count = n },
			func(e *api.Event) { e.Rule.Until = n },
			func(e *api.Event) { e.More = []int{n} },
			func(e *api.Event) { e.Not = []int{n} },
			func(e *api.Event) { e.Changes = []api.Change{{At: n}} },
			func(e *api.Event) { e.Changes = []api.Change{{At: 66730170, To: n}} },
			func(e *api.Event) { e.Alarms = []api.Alarm{{Offset: n}} },
			func(e *api.Event) { e.Alarms = []api.Alarm{{Offset: n, End: true}} },
			func(e *api.Event) { e.Alarms = []api.Alarm{{Repeat: n, Between: 1}} },
			func(e *api.Event) { e.Alarms = []api.Alarm{{Repeat: 1, Between: n}} },
			func(e *api.Event) { e.Alarms = []api.Alarm{{Between: n}} },
			func(e *api.Event) { e.Alarms = []api.Alarm{{Repeat: n, Between: n}} },
		} {
			e := repeated(t, 66730170, 0, "daily", api.Alarm{})
			change(&e)
			wantRefused(t, zoneOf(0), e, api.ErrRange)
		}
	}
}

// spare copies a list, with things behind its length that are no matter of the call.
func spare[T any](list []T, behind T) []T {
	return append(slices.Clone(list), behind, behind, behind)[:len(list)]
}

// crowded makes a zone and an event all of whose lists have things behind their length.
func crowded(t *testing.T) (api.Zone, api.Event) {
	e := repeated(t, 66730170, 90, "monthly months 1,3,11,12 days 1,2,16,17,18 on mo,tu,we,th,fr pick -1,1,2")
	e.Rule.Months = spare(e.Rule.Months, 13)
	e.Rule.Days = spare(e.Rule.Days, 32)
	e.Rule.Weeks = spare(e.Rule.Weeks, api.Nth{N: 9, Weekday: 9})
	e.Rule.Pick = spare(e.Rule.Pick, 0)
	e.More = spare([]int{66730170, 66730171, 66740000}, 1)
	e.Not = spare([]int{66731610, 66740001}, 66730170)
	e.Changes = spare([]api.Change{{At: 66730170, To: 66739999}, {At: 66730171}}, api.Change{At: 66740000})
	e.Alarms = spare([]api.Alarm{{Offset: 10}, {Offset: -90, End: true, Repeat: 1, Between: 11}}, api.Alarm{Offset: 1})
	z := zoneOf(60, 66000000, 0, 66735000, -30)
	z.Shifts = spare(z.Shifts, api.Shift{At: 66735000, Ahead: 30})
	return z, e
}

func wholeList[T any](list []T) []T { return slices.Clone(list[:cap(list)]) }

// whole copies a zone and an event, and what lies behind the length of their lists.
func whole(z api.Zone, e api.Event) (api.Zone, api.Event) {
	z.Shifts = wholeList(z.Shifts)
	e.Rule.Months = wholeList(e.Rule.Months)
	e.Rule.Days = wholeList(e.Rule.Days)
	e.Rule.Weeks = wholeList(e.Rule.Weeks)
	e.Rule.Pick = wholeList(e.Rule.Pick)
	e.More = wholeList(e.More)
	e.Not = wholeList(e.Not)
	e.Changes = wholeList(e.Changes)
	e.Alarms = wholeList(e.Alarms)
	return z, e
}

var ofCrowded = []api.Ring{
	ring(66733050, 66733050, 1, 0), ring(66733060, 66733050, 0, 0), ring(66733061, 66733050, 1, 1),
	ring(66740029, 66730170, 1, 0), ring(66740030, 66740000, 1, 0), ring(66740039, 66730170, 0, 0), ring(66740040, 66730170, 1, 1), ring(66740040, 66740000, 0, 0), ring(66740041, 66740000, 1, 1),
}

func TestWhatIsHandedInStays(t *testing.T) {
	z, e := crowded(t)
	zoneBefore, before := whole(z, e)
	wantRings(t, z, e, 66730170, 66740042, ofCrowded...)
	wantRings(t, z, e, 66733051, 66740041, ofCrowded[1:8]...)
	wantNoRings(t, z, e, 0, 1, api.ErrRange)
	wantNoRings(t, z, e, 1, 2+mostSpan, api.ErrRange)
	if zoneAfter, after := whole(z, e); !reflect.DeepEqual(zoneAfter, zoneBefore) || !reflect.DeepEqual(after, before) {
		t.Errorf("it was changed: %+v, %+v, it was %+v, %+v", zoneAfter, after, zoneBefore, before)
	}
}

// What comes out is the caller's: writing into it changes neither what was handed in nor another answer.
func TestAnswersAreFresh(t *testing.T) {
	z, e := crowded(t)
	zoneBefore, before := whole(z, e)
	list, err := alarm.Rings(z, e, 66730170, 66740042)
	other, _ := alarm.Rings(z, e, 66730170, 66740042)
	if err != nil {
		t.Fatal(err)
	}
	list = list[:cap(list)]
	for i := range list {
		list[i] = ring(-7, -7, -7, -7)
	}
	if !slices.Equal(other, ofCrowded) {
		t.Errorf("another answer was changed: %v", other)
	}
	wantRings(t, z, e, 66730170, 66740042, ofCrowded...)
	if zoneAfter, after := whole(z, e); !reflect.DeepEqual(zoneAfter, zoneBefore) || !reflect.DeepEqual(after, before) {
		t.Errorf("it was changed through an answer: %+v, %+v, it was %+v, %+v", zoneAfter, after, zoneBefore, before)
	}
	// And what is changed later is no matter of an answer.
	e.Changes[0].To, e.More[2], e.Alarms[0].Offset, z.Shifts[1].Ahead = 5, 66740001, 11, 0
	if !slices.Equal(other, ofCrowded) {
		t.Errorf("an answer was changed: %v", other)
	}
}

// An empty list and nil are the same.
func TestEmptyAndNil(t *testing.T) {
	for _, e := range []api.Event{once(66730170, 5), repeated(t, 66730170, 5, "weekly")} {
		full := e
		full.More, full.Not, full.Changes, full.Alarms = []int{}, []int{}, []api.Change{}, []api.Alarm{}
		full.Rule.Months, full.Rule.Days, full.Rule.Weeks, full.Rule.Pick = []int{}, []int{}, []api.Nth{}, []int{}
		for _, each := range []api.Event{e, full} {
			for _, z := range []api.Zone{{}, {Shifts: []api.Shift{}}} {
				wantRings(t, z, each, 66730170, 66730170+1440)
				each.Alarms = []api.Alarm{{Offset: 7}}
				wantRings(t, z, each, 66730170, 66730170+1440, ring(66730177, 66730170, 0, 0))
				each.Alarms = full.Alarms
			}
		}
	}
}
