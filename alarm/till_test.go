package alarm_test

import (
	"math"
	"reflect"
	"slices"
	"testing"

	"chimework/alarm"
	"chimework/api"
	"chimework/plain"
)

func wantTill(t *testing.T, z api.Zone, e api.Event, from, last int, want ...api.Ring) {
	t.Helper()
	if got, err := alarm.Till(z, e, from, last); !slices.Equal(got, want) || err != nil {
		t.Errorf("Till(%v, %+v, %d, %d): got %v, %v, want %v", z, e, from, last, got, err, want)
	}
}

func wantNoTill(t *testing.T, z api.Zone, e api.Event, from, last int, want api.Errno) {
	t.Helper()
	if got, err := alarm.Till(z, e, from, last); len(got) != 0 || plain.Told(err) != want {
		t.Errorf("Till(%v, %+v, %d, %d): got %v, %v, want none, %v", z, e, from, last, got, err, want)
	}
}

// Till tells what Rings tells of a stretch that ends one minute later.
func TestTillIsRingsToTheNextMinute(t *testing.T) {
	at := timeOf(t, "2026-11-16 09:30")
	e := repeated(t, at, 30, "daily count 4", api.Alarm{Offset: -10}, api.Alarm{End: true, Repeat: 2, Between: 1})
	for _, z := range []api.Zone{zoneOf(0), zoneOf(60), zoneOf(0, at+2000, 120)} {
		all, err := alarm.Rings(z, e, at-5000, at+10000)
		if err != nil || len(all) != 16 {
			t.Fatalf("got %d rings, %v", len(all), err)
		}
		for _, r := range all {
			for _, from := range []int{r.At - 1441, r.At - 1, r.At} {
				for last := max(from, r.At-2); last <= r.At+3; last++ {
					want, err := alarm.Rings(z, e, from, last+1)
					if err != nil {
						t.Fatal(err)
					}
					wantTill(t, z, e, from, last, want...)
				}
			}
		}
	}
}

// What rings at the last time of all is told, what would ring behind it is not.
func TestTillTheLastTime(t *testing.T) {
	e := once(lastTime-3, 2, api.Alarm{Repeat: 5, Between: 1}, api.Alarm{End: true, Offset: 1})
	which := lastTime - 3
	all := []api.Ring{ring(which, which, 0, 0), ring(which+1, which, 0, 1), ring(which+2, which, 0, 2), ring(lastTime, which, 0, 3), ring(lastTime, which, 1, 0)}
	wantTill(t, zoneOf(0), e, 157000000, lastTime, all...)
	wantTill(t, zoneOf(0), e, lastTime-1, lastTime, all[2:]...)
	wantTill(t, zoneOf(0), e, lastTime, lastTime, all[3:]...)
	wantTill(t, zoneOf(0), e, lastTime-1, lastTime-1, all[2])
	wantTill(t, zoneOf(0), once(1, 0, api.Alarm{Offset: -1}, api.Alarm{}), 1, 1, ring(1, 1, 1, 0))
}

// There may be as many as of Rings, in a stretch that is as long.
func TestHowManyTill(t *testing.T) {
	daily := repeated(t, 66730170, 0, "daily", api.Alarm{})
	last := 66730170 + (mostRings-1)*1440
	if list, err := alarm.Till(zoneOf(0), daily, 66730170, last); len(list) != mostRings || err != nil {
		t.Errorf("got %d, %v", len(list), err)
	}
	wantNoTill(t, zoneOf(0), daily, 66730170, last+1440, api.ErrFull)
	wantNoTill(t, zoneOf(0), daily, 66730170, 66730170+mostSpan, api.ErrFull)
	wantNoTill(t, zoneOf(0), daily, 66730170, 66730170+mostSpan+1, api.ErrRange)
}

func TestErrorsOfTill(t *testing.T) {
	fine := once(66730170, 90, api.Alarm{})
	wantNoTill(t, zoneOf(0), fine, 66730171, 66730170, api.ErrRange)
	for _, n := range noTimes {
		wantNoTill(t, zoneOf(0), fine, n, 66730170, api.ErrRange)
		wantNoTill(t, zoneOf(0), fine, 66730170, n, api.ErrRange)
		wantNoTill(t, zoneOf(0), fine, n, n, api.ErrRange)
	}
	for told, zones := range wrongZones() {
		for _, z := range zones {
			wantNoTill(t, z, fine, 66730170, 66730170, told)
			wantNoTill(t, z, fine, 0, math.MaxInt, told)
			for other, events := range wrongEvents(t) {
				for _, e := range events {
					wantNoTill(t, z, e, 66730170, 66730170, other)
					wantNoTill(t, z, e, math.MaxInt, 0, other)
				}
			}
		}
	}
}

func TestWhatIsHandedToTillStays(t *testing.T) {
	z, e := crowded(t)
	zoneBefore, before := whole(z, e)
	wantTill(t, z, e, 66730170, 66740041, ofCrowded...)
	if zoneAfter, after := whole(z, e); !reflect.DeepEqual(zoneAfter, zoneBefore) || !reflect.DeepEqual(after, before) {
		t.Errorf("it was changed: %+v, %+v, it was %+v, %+v", zoneAfter, after, zoneBefore, before)
	}
}
