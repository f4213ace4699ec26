package desk

import (
	"slices"
	"testing"

	"chimework/api"
	"chimework/plain"
)

// begin is 2026-11-16 00:00.
const begin = 66729600

// laid makes a desk at begin with an event that rings ten minutes later, and with rings that no asks bring about: one alarm of one time rings only once of itself, and is either snoozed or has rung.
func laid(t *testing.T, rung, snoozed []api.Ring) (*Desk, api.Ring) {
	t.Helper()
	d, err := New(api.Zone{})
	if err != nil {
		t.Fatal(err)
	}
	e := api.Event{Name: "a", Start: begin + 10, Alarms: []api.Alarm{{}}}
	for _, a := range []api.Ask{{What: api.Put, Event: e}, {What: api.Tick, N: begin}} {
		if _, err := d.Do(a); err != nil {
			t.Fatal(err)
		}
	}
	d.rung, d.snoozed = rung, snoozed
	return d, api.Ring{At: begin + 10, Name: "a", Which: begin + 10}
}

func wantState(t *testing.T, d *Desk, rung, snoozed []api.Ring) {
	t.Helper()
	if !slices.Equal(d.Rung(), rung) || !slices.Equal(d.Snoozed(), snoozed) {
		t.Errorf("got %v, %v, want %v, %v", d.Rung(), d.Snoozed(), rung, snoozed)
	}
}

// What is snoozed to where the very same rings by itself is told once, and has rung once.
func TestTheSameIsToldOnce(t *testing.T) {
	d, r := laid(t, nil, nil)
	d.snoozed = []api.Ring{r}
	got, err := d.Do(api.Ask{What: api.Tick, N: begin + 20})
	if !slices.Equal(got, []api.Ring{r}) || err != nil {
		t.Errorf("got %v, %v", got, err)
	}
	wantState(t, d, []api.Ring{r}, nil)
}

// Just that one is snoozed already: ErrClash comes behind ErrRange and ErrNone, and ahead of ErrFull.
func TestSnoozedAlready(t *testing.T) {
	_, r := laid(t, nil, nil)
	full := make([]api.Ring, api.MaxTimers)
	for i := range full {
		full[i] = r
		full[i].Turn = i
	}
	for _, snoozed := range [][]api.Ring{{r}, full} {
		earlier := r
		earlier.At = begin - 10
		rung := []api.Ring{earlier}
		d, _ := laid(t, rung, slices.Clone(snoozed))
		for _, c := range []struct {
			ring api.Ring
			n    int
			want api.Errno
		}{{earlier, 10, api.ErrClash}, {earlier, 0, api.ErrRange}, {r, 10, api.ErrNone}} {
			if _, err := d.Do(api.Ask{What: api.Snooze, Ring: c.ring, N: c.n}); plain.Told(err) != c.want {
				t.Errorf("got %v, want %v", err, c.want)
			}
			wantState(t, d, rung, snoozed)
		}
	}
}
