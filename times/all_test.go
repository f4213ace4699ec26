package times_test

import (
	"math"
	"slices"
	"testing"

	"chimework/api"
	"chimework/plain"
	"chimework/times"
)

func wantAll(t *testing.T, z api.Zone, e api.Event, from, to int, want []api.Time) {
	t.Helper()
	if got, err := times.All(z, e, from, to); !slices.Equal(got, want) || err != nil {
		t.Errorf("All(%v, %+v, %d, %d): got %d, %v, want %d: %v", z, e, from, to, len(got), err, len(want), want)
	}
}

func wantCheck(t *testing.T, z api.Zone, e api.Event, from, to int, want api.Errno) {
	t.Helper()
	if err := times.Check(z, e, from, to); plain.Told(err) != want {
		t.Errorf("Check(%v, %+v, %d, %d): got %v, want %v", z, e, from, to, err, want)
	}
}

// There may be more of them than Between tells, in a stretch that is longer.
func TestAllOfMany(t *testing.T) {
	daily := repeated(t, 1, 20, "daily")
	want := spans(1, 1440, 1400, 20)
	wantAll(t, zoneOf(0), daily, 1, 1400*1440, want)
	wantAll(t, zoneOf(0), daily, 2, 1399*1440+1, want[1:1399])
	wantAll(t, zoneOf(0), daily, 2, 1399*1440+2, want[1:])
}

// The numbers need be no times; From may be the last time, which no Between tells.
func TestAllOfFarNumbers(t *testing.T) {
	first := repeated(t, 1, 0, "daily count 2")
	late := repeated(t, lastTime-1440, 0, "daily")
	for _, from := range []int{math.MinInt, math.MinInt + mostAhead, -mostSpan, -1, 0, 1} {
		wantAll(t, zoneOf(0), first, from, 2, spans(1, 1440, 1, 0))
		wantAll(t, zoneOf(0), first, from, math.MaxInt, spans(1, 1440, 2, 0))
		for _, to := range []int{math.MinInt, -mostAhead, 0, 1} {
			wantAll(t, zoneOf(0), first, from, to, nil)
			wantAll(t, zoneOf(-900), first, from, to, nil)
		}
	}
	wantAll(t, zoneOf(0), late, lastTime-1440, lastTime, spans(lastTime-1440, 1440, 1, 0))
	for _, to := range []int{lastTime + 1, lastTime + mostSpan, math.MaxInt - mostAhead, math.MaxInt} {
		wantAll(t, zoneOf(0), late, lastTime, to, spans(lastTime, 1440, 1, 0))
		wantAll(t, zoneOf(0), late, math.MinInt, to, spans(lastTime-1440, 1440, 2, 0))
		wantAll(t, zoneOf(0), late, lastTime+1, to, nil)
		wantAll(t, zoneOf(0), late, to, math.MinInt, nil)
		wantAll(t, zoneOf(0), late, to, to, nil)
	}
	wantAll(t, zoneOf(-900), once(lastTime-900, 0), lastTime, lastTime+1, []api.Time{span(lastTime-900, lastTime, 0)})
}

// Check tells what Between does, but for how many there are; All what is wrong with an event, or else with a zone.
func TestErrorsOfAllAndCheck(t *testing.T) {
	fine := repeated(t, 66730170, 90, "daily")
	wantCheck(t, zoneOf(0), fine, 66730170, 66730170+mostSpan, api.OK)
	wantCheck(t, zoneOf(0), fine, 66730170, 66730170, api.OK)
	wantCheck(t, zoneOf(0), fine, 66730170, 66730170+mostSpan+1, api.ErrRange)
	wantCheck(t, zoneOf(0), fine, 66730171, 66730170, api.ErrRange)
	wantCheck(t, zoneOf(0), fine, lastTime, lastTime, api.OK)
	for _, n := range noTimes {
		wantCheck(t, zoneOf(0), fine, n, 66730170, api.ErrRange)
		wantCheck(t, zoneOf(0), fine, 66730170, n, api.ErrRange)
	}
	wantWrong := func(z api.Zone, e api.Event, want api.Errno) {
		t.Helper()
		wantCheck(t, z, e, 66730170, 66730171, want)
		wantCheck(t, z, e, 0, math.MaxInt, want)
		if got, err := times.All(z, e, 1, 2); len(got) != 0 || plain.Told(err) != want {
			t.Errorf("All(%v, %+v): got %v, %v, want none, %v", z, e, got, err, want)
		}
	}
	for told, zones := range wrongZones() {
		for _, z := range zones {
			wantWrong(z, fine, told)
			for other, events := range wrongEvents(t) {
				for _, e := range events {
					wantWrong(z, e, other)
				}
			}
		}
	}
}
