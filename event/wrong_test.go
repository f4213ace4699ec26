package event_test

import (
	"math"
	"reflect"
	"slices"
	"strings"
	"testing"

	"chimework/api"
	"chimework/event"
)

// fault is one way in which an event may be wrong, and what is told of it alone.
type fault struct {
	what   string
	spoil  func(e *api.Event)
	told   api.Errno
	repeat bool // only what repeats may have it
	once   bool // only what does not repeat may have it
}

// faults stand in the order in which E1 names them.
var faults = []fault{
	{what: "Name", spoil: func(e *api.Event) { e.Name = "A" }, told: api.ErrSyntax},
	{what: "Text", spoil: func(e *api.Event) { e.Text = strings.Repeat("t", 61) }, told: api.ErrSyntax},
	{what: "Start", spoil: func(e *api.Event) { e.Start = 0 }, told: api.ErrRange},
	{what: "Length", spoil: func(e *api.Event) { e.Length = -1 }, told: api.ErrRange},
	{what: "Rule that is not empty", spoil: func(e *api.Event) { e.Rule.Every = 51 }, told: api.ErrShape, once: true},
	{what: "Rule out of range", spoil: func(e *api.Event) { e.Rule.Every = 51 }, told: api.ErrRange, repeat: true},
	{what: "Rule of two bounds", spoil: func(e *api.Event) { e.Rule.Count, e.Rule.Until = 1, 1 }, told: api.ErrShape, repeat: true},
	{what: "Rule that is full", spoil: func(e *api.Event) { e.Rule.Pick = make([]int, 21) }, told: api.ErrFull, repeat: true},
	{what: "Rule that does not rise", spoil: func(e *api.Event) { e.Rule.Months = []int{2, 1} }, told: api.ErrClash, repeat: true},
	{what: "many More", spoil: func(e *api.Event) { e.More = make([]int, 101) }, told: api.ErrFull},
	{what: "many Not", spoil: func(e *api.Event) { e.Not = make([]int, 101) }, told: api.ErrFull},
	{what: "many Changes", spoil: func(e *api.Event) { e.Changes = make([]api.Change, 101) }, told: api.ErrFull},
	{what: "many Alarms", spoil: func(e *api.Event) { e.Alarms = make([]api.Alarm, 5) }, told: api.ErrFull},
	{what: "More out of range", spoil: func(e *api.Event) { e.More = []int{1, lastTime + 1} }, told: api.ErrRange},
	{what: "Not out of range", spoil: func(e *api.Event) { e.Not = []int{0, 1} }, told: api.ErrRange},
	{what: "At out of range", spoil: func(e *api.Event) { e.Changes = []api.Change{{At: 1}, {}} }, told: api.ErrRange},
	{what: "To out of range", spoil: func(e *api.Event) { e.Changes = []api.Change{{At: 1}, {At: 2, To: -1}} }, told: api.ErrRange},
	{what: "More that does not rise", spoil: func(e *api.Event) { e.More = []int{5, 5} }, told: api.ErrClash},
	{what: "Not that does not rise", spoil: func(e *api.Event) { e.Not = []int{5, 4} }, told: api.ErrClash},
	{what: "Changes that do not rise", spoil: func(e *api.Event) { e.Changes = changesAt(5, 5) }, told: api.ErrClash},
	{what: "an Alarm", spoil: func(e *api.Event) { e.Alarms = []api.Alarm{{}, {Offset: 100001}} }, told: api.ErrRange},
}

// Of two faults the one that the document names first is told, whichever they are.
func TestWhichErrorOfCheck(t *testing.T) {
	for i, first := range faults {
		for _, second := range faults[i:] {
			for _, repeats := range []bool{false, true} {
				if (first.once || second.once) && repeats || (first.repeat || second.repeat) && !repeats {
					continue
				}
				e := once(66730170)
				if repeats {
					e = repeated(t, 66730170, "daily months 1")
				}
				// What comes first is laid last, so that it is not overwritten where both are of one field.
				second.spoil(&e)
				first.spoil(&e)
				if err := event.Check(e); err != first.told {
					t.Errorf("%s, and %s: got %v, want %v", first.what, second.what, err, first.told)
				}
				wantRefused(t, e, first.told)
			}
		}
	}
}

// In one list what is no time is told ahead of what does not rise, wherever both stand; so it is from list to list.
func TestRangeAheadOfClash(t *testing.T) {
	for _, times := range [][]int{{5, 5, 0}, {0, 5, 5}, {5, 4, lastTime + 1}, {5, 0}, {lastTime + 1, 5}, {0, 0}, {math.MaxInt, math.MinInt}} {
		for _, fill := range lists {
			e := once(66730170)
			fill(&e, times)
			wantRefused(t, e, api.ErrRange)
		}
	}
	e := once(66730170)
	e.More, e.Not, e.Changes = []int{5, 5}, []int{5, 5}, []api.Change{{At: 1, To: -1}}
	wantRefused(t, e, api.ErrRange)
	e.Changes = []api.Change{{At: 2}, {At: 1, To: lastTime + 1}}
	wantRefused(t, e, api.ErrRange)
}

// All alarms are looked at, behind all else.
func TestEachAlarmOfAnEvent(t *testing.T) {
	for i := range 4 {
		for _, a := range []api.Alarm{{Offset: -100001}, {Repeat: 6, Between: 1}, {Repeat: 1}, {Between: 1}, {Offset: math.MinInt, Repeat: math.MaxInt, Between: math.MinInt}} {
			e := once(66730170)
			e.Alarms = []api.Alarm{{Offset: -10}, {Offset: 100000, End: true}, {Repeat: 5, Between: 10000}, {}}
			wantCheck(t, e, api.OK)
			e.Alarms[i] = a
			wantRefused(t, e, api.ErrRange)
			e.More = []int{2, 2}
			wantRefused(t, e, api.ErrClash)
		}
	}
}

// ErrRange of a stretch is told ahead of ErrFull.
func TestRangeAheadOfFull(t *testing.T) {
	daily := repeated(t, 1, "daily")
	wantNone(t, daily, 1, 1+mostSpan, api.ErrFull)
	wantNone(t, daily, 1, 2+mostSpan, api.ErrRange)
	wantNone(t, daily, 0, mostSpan, api.ErrRange)
	wantNone(t, daily, lastTime-mostSpan+1, lastTime+1, api.ErrRange)
	wantNone(t, daily, mostSpan, 1, api.ErrRange)
}

// spare copies a list, with things behind its length that are no matter of the call.
func spare[T any](list []T, behind T) []T {
	return append(slices.Clone(list), behind, behind, behind)[:len(list)]
}

// crowded makes an event all of whose lists have things behind their length.
func crowded(t *testing.T) api.Event {
	e := repeated(t, 66730170, "monthly months 1,3,11,12 days 1,2,16,17,18 on mo,tu,we,th,fr pick -1,1,2")
	e.Rule.Months = spare(e.Rule.Months, 13)
	e.Rule.Days = spare(e.Rule.Days, 32)
	e.Rule.Weeks = spare(e.Rule.Weeks, api.Nth{N: 9, Weekday: 9})
	e.Rule.Pick = spare(e.Rule.Pick, 0)
	e.More = spare([]int{66730170, 66730171, 66740000}, 1)
	e.Not = spare([]int{66731610, 66740001}, 66730170)
	e.Changes = spare([]api.Change{{At: 66730170, To: 66730175}, {At: 66730171}}, api.Change{At: 66740000})
	e.Alarms = spare([]api.Alarm{{Offset: -10}, {Repeat: 5, Between: 5}}, api.Alarm{Offset: math.MaxInt})
	return e
}

// whole copies an event, and what lies behind the length of its lists.
func whole(e api.Event) api.Event {
	e.Rule.Months = slices.Clone(e.Rule.Months[:cap(e.Rule.Months)])
	e.Rule.Days = slices.Clone(e.Rule.Days[:cap(e.Rule.Days)])
	e.Rule.Weeks = slices.Clone(e.Rule.Weeks[:cap(e.Rule.Weeks)])
	e.Rule.Pick = slices.Clone(e.Rule.Pick[:cap(e.Rule.Pick)])
	e.More = slices.Clone(e.More[:cap(e.More)])
	e.Not = slices.Clone(e.Not[:cap(e.Not)])
	e.Changes = slices.Clone(e.Changes[:cap(e.Changes)])
	e.Alarms = slices.Clone(e.Alarms[:cap(e.Alarms)])
	return e
}

func TestWhatIsHandedInStays(t *testing.T) {
	e := crowded(t)
	before := whole(e)
	wantCheck(t, e, api.OK)
	wantTimes(t, e, 66730170, 66740000, []int{66730170, 66730171, 66733050, 66740000})
	wantMoved(t, e, 66730170, 66730175, false)
	wantMoved(t, e, 66730171, 0, true)
	wantMoved(t, e, 66740000, 66740000, false)
	wantNotMoved(t, e, 66731610, api.ErrNone)
	wantNone(t, e, 0, 1, api.ErrRange)
	if after := whole(e); !reflect.DeepEqual(after, before) {
		t.Errorf("an event was changed: %+v, it was %+v", after, before)
	}
}

// What comes out is the caller's: writing into it changes neither the event nor another answer.
func TestAnswersAreFresh(t *testing.T) {
	for _, e := range []api.Event{crowded(t), {Name: "a", Start: 66730170, More: []int{66730171, 66733050, 66740000}}} {
		before := whole(e)
		want := []int{66730170, 66730171, 66733050, 66740000}
		for _, call := range []func(api.Event, int, int) ([]int, error){event.Local, event.Days} {
			list, err := call(e, 66730170, 66740000)
			if err != nil {
				t.Fatal(err)
			}
			list = list[:cap(list)]
			for i := range list {
				list[i] = -7
			}
			wantTimes(t, e, 66730170, 66740000, want)
		}
		if after := whole(e); !reflect.DeepEqual(after, before) {
			t.Errorf("an event was changed through an answer: %+v, it was %+v", after, before)
		}
	}
}

// A later change of what was handed in is no matter of an answer.
func TestNothingIsKept(t *testing.T) {
	e := once(66730170)
	e.More = []int{66730171, 66730172}
	list, err := event.Local(e, 66730170, 66730172)
	e.More[0] = 1
	if !slices.Equal(list, []int{66730170, 66730171, 66730172}) || err != nil {
		t.Errorf("Local: got %v, %v", list, err)
	}
}

// An empty list and nil are the same.
func TestEmptyAndNil(t *testing.T) {
	for _, e := range []api.Event{once(66730170), repeated(t, 66730170, "weekly")} {
		full := e
		full.More, full.Not, full.Changes, full.Alarms = []int{}, []int{}, []api.Change{}, []api.Alarm{}
		full.Rule.Months, full.Rule.Days, full.Rule.Weeks, full.Rule.Pick = []int{}, []int{}, []api.Nth{}, []int{}
		for _, each := range []api.Event{e, full} {
			wantCheck(t, each, api.OK)
			wantItself(t, each, 66730170, 66730170+1440, []int{66730170})
			wantTimes(t, each, 1, 1, nil)
		}
	}
}

// Numbers at the ends of int, in every place, are told, and nothing wraps round.
func TestFarNumbers(t *testing.T) {
	for _, n := range []int{math.MinInt, math.MinInt + 1, math.MaxInt - 1, math.MaxInt} {
		for _, change := range []func(*api.Event){
			func(e *api.Event) { e.Start = n },
			func(e *api.Event) { e.Length = n },
			func(e *api.Event) { e.Rule.Freq = n },
			func(e *api.Event) { e.Rule.Every = n },
			func(e *api.Event) { e.Rule.Count = n },
			func(e *api.Event) { e.Rule.Until = n },
			func(e *api.Event) { e.Rule.Months = []int{n} },
			func(e *api.Event) { e.Rule.Days = []int{n} },
			func(e *api.Event) { e.Rule.Weeks = []api.Nth{{N: n, Weekday: 1}} },
			func(e *api.Event) { e.Rule.Weeks = []api.Nth{{Weekday: n}} },
			func(e *api.Event) { e.Rule.Pick = []int{n} },
			func(e *api.Event) { e.More = []int{n} },
			func(e *api.Event) { e.Not = []int{n} },
			func(e *api.Event) { e.Changes = []api.Change{{At: n}} },
			func(e *api.Event) { e.Changes = []api.Change{{At: 1, To: n}} },
			func(e *api.Event) { e.Alarms = []api.Alarm{{Offset: n}} },
			func(e *api.Event) { e.Alarms = []api.Alarm{{Repeat: n}} },
			func(e *api.Event) { e.Alarms = []api.Alarm{{Repeat: n, Between: n}} },
			func(e *api.Event) { e.Alarms = []api.Alarm{{Repeat: 1, Between: n}} },
			func(e *api.Event) { e.Alarms = []api.Alarm{{Between: n}} },
		} {
			e := repeated(t, 66730170, "daily")
			change(&e)
			wantRefused(t, e, api.ErrRange)
		}
	}
}
