package event_test

import (
	"math"
	"slices"
	"testing"

	"chimework/api"
	"chimework/event"
	"chimework/plain"
)

func wantReal(t *testing.T, e api.Event, from, to int, want ...api.Change) {
	t.Helper()
	if got, err := event.Real(e, from, to); !slices.Equal(got, want) || err != nil {
		t.Errorf("Real(%+v, %d, %d): got %v, %v, want %v", e, from, to, got, err, want)
	}
}

func TestReal(t *testing.T) {
	start := timeOf(t, "2026-11-16 09:30")
	itself := func(day int) api.Change { return api.Change{At: start + day*1440, To: start + day*1440} }
	for _, text := range []string{"daily count 5", "daily until 2026-11-20", "daily count 5 months 11"} {
		e := repeated(t, start, text)
		e.Not = []int{start + 4*1440}
		into, out, off := api.Change{At: start, To: start + 1441}, api.Change{At: start + 2*1440, To: lastTime}, api.Change{At: start + 3*1440}
		e.Changes = []api.Change{{At: 1, To: start + 7}, into, out, off, {At: start + 4*1440, To: start + 8}, {At: lastTime, To: start + 9}}
		wantReal(t, e, start, start+10*1440, itself(1), into)
		wantReal(t, e, start+1440, start+1440, itself(1))
		wantReal(t, e, start+1441, start+1441, into)
		wantReal(t, e, start+1442, start+10*1440)
		wantReal(t, e, start-1440, start)
		wantReal(t, e, lastTime, lastTime, out)
	}
}

// The numbers need be no times, and there may be more of them than others tell.
func TestRealOfFarNumbers(t *testing.T) {
	daily := repeated(t, 1, "daily")
	var all []api.Change
	for _, n := range rising(1, 1440, 300) {
		all = append(all, api.Change{At: n, To: n})
	}
	for _, from := range []int{math.MinInt, -1, 0, 1} {
		wantReal(t, daily, from, 299*1440+1, all...)
		wantReal(t, daily, from, 0)
		wantReal(t, daily, from, math.MinInt)
	}
	late := repeated(t, lastTime-1440, "daily")
	for _, to := range []int{lastTime, lastTime + 1, math.MaxInt} {
		wantReal(t, late, lastTime-1440, to, api.Change{At: lastTime - 1440, To: lastTime - 1440}, api.Change{At: lastTime, To: lastTime})
		wantReal(t, late, math.MinInt, to, api.Change{At: lastTime - 1440, To: lastTime - 1440}, api.Change{At: lastTime, To: lastTime})
		wantReal(t, late, lastTime+1, to)
	}
	// What is called off is at no time, also not at 0.
	off := once(66730170)
	off.Changes = changesAt(66730170)
	wantReal(t, off, math.MinInt, math.MaxInt)
	wantReal(t, off, 0, 0)
	wantReal(t, off, math.MaxInt, math.MinInt)
}

func TestRealOfAWrongEvent(t *testing.T) {
	for _, f := range faults {
		e := once(66730170)
		if f.repeat {
			e = repeated(t, 66730170, "daily months 1")
		}
		f.spoil(&e)
		if got, err := event.Real(e, 1, lastTime); len(got) != 0 || plain.Told(err) != f.told {
			t.Errorf("%s: got %v, %v, want none, %v", f.what, got, err, f.told)
		}
	}
}
