package desk_test

import (
	"reflect"
	"slices"
	"testing"

	"chimework/api"
	"chimework/desk"
	"chimework/plain"
)

// wantEvent asks for the event of a name.
func wantEvent(t *testing.T, d *desk.Desk, name string, want api.Event) {
	t.Helper()
	if got, err := d.Event(name); err != nil || !reflect.DeepEqual(got, want) {
		t.Fatalf("Event(%q): got %+v, %v, want %+v", name, got, err, want)
	}
}

// wantNoEvent asks for names of which there is none.
func wantNoEvent(t *testing.T, d *desk.Desk, names ...string) {
	t.Helper()
	for _, name := range names {
		if got, err := d.Event(name); plain.Told(err) != api.ErrNone || !reflect.DeepEqual(got, api.Event{}) {
			t.Fatalf("Event(%q): got %+v, %v, want none, ErrNone", name, got, err)
		}
	}
}

// fullEvent has something in each list.
func fullEvent(t *testing.T) api.Event {
	t.Helper()
	e := repeated(t, "a", begin+570, 90, "monthly months 1,11,12 days 16,17,18 on mo,tu,we pick -1,1", api.Alarm{Offset: 10}, api.Alarm{Offset: -90, End: true, Repeat: 1, Between: 11})
	e.More = []int{begin + 570, begin + 571}
	e.Not = []int{begin + 2010}
	e.Changes = []api.Change{{At: begin + 570, To: begin + 10399}, {At: begin + 571}}
	return e
}

// An event is told as it was put last, but for its text; a Tick, and what is refused, do nothing to it.
func TestEventOfAName(t *testing.T) {
	d := made(t)
	wantNoEvent(t, d, "", "a", "b")
	first, second := once("a", begin, 5, api.Alarm{}), fullEvent(t)
	other := once("b", begin+1, 0)
	other.Text = "a text"
	wantDone(t, d, put(first))
	wantDone(t, d, put(other))
	other.Text = ""
	wantEvent(t, d, "a", first)
	wantEvent(t, d, "b", other)
	wantNoEvent(t, d, "", "c", "ab", "A", "a ")
	wantDone(t, d, tick(begin-1))
	wantDone(t, d, tick(begin), bell("a", begin))
	wantEvent(t, d, "a", first)
	wantDone(t, d, put(second))
	wantEvent(t, d, "a", second)
	wrong := first
	wrong.Length = -1
	wantRefused(t, d, put(wrong), api.ErrRange)
	wantEvent(t, d, "a", second)
	wantDone(t, d, drop("b"))
	wantNoEvent(t, d, "b")
	wantEvent(t, d, "a", second)
}

// What is told of an event is the caller's: what is done to it does nothing to the desk, nor the other way.
func TestEventIsTheCallers(t *testing.T) {
	d := made(t)
	e := fullEvent(t)
	wantDone(t, d, put(e))
	told, err := d.Event("a")
	if err != nil {
		t.Fatal(err)
	}
	writeOver(api.Zone{}, told)
	wantEvent(t, d, "a", e)
	told, _ = d.Event("a")
	more := append(told.Alarms, api.Alarm{Offset: 7})
	fill(more, api.Alarm{Offset: 7})
	wantEvent(t, d, "a", e)
	c := d.Copy()
	wantEvent(t, c, "a", e)
	wantDone(t, d, drop("a"))
	wantNoEvent(t, d, "a")
	wantEvent(t, c, "a", e)
	if !slices.Equal(told.More, e.More) || !slices.Equal(told.Not, e.Not) || !slices.Equal(told.Changes, e.Changes) {
		t.Fatalf("what was told is changed: got %+v, want %+v", told, e)
	}
}
