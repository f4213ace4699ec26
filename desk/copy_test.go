package desk_test

import (
	"slices"
	"testing"

	"chimework/api"
	"chimework/desk"
	"chimework/plain"
)

// steps of a desk, each of which would show on another one that shares something with it.
func steps() []api.Ask {
	crowd := crowd(4)
	asks := []api.Ask{put(crowd[0]), put(crowd[1]), put(crowd[2]), put(crowd[3]), tick(begin)}
	for n := begin + 1; n <= begin+12; n++ {
		asks = append(asks, tick(n))
	}
	return append(asks, drop(crowd[1].Name), put(once("new", begin+20, 0, api.Alarm{})), tick(begin+30))
}

// meddle with a desk: rings that have rung are done or snoozed, in turn.
func meddle(t *testing.T, d *desk.Desk) {
	t.Helper()
	for i, r := range d.Rung() {
		if i%2 == 0 {
			wantDone(t, d, done(r))
		} else {
			wantDone(t, d, snooze(r, 1+i%5))
		}
	}
}

// A copy tells what the desk does, at each step, and goes on as it would.
func TestCopyGoesOn(t *testing.T) {
	asks := steps()
	for many := range len(asks) + 1 {
		d := made(t)
		for i, a := range asks[:many] {
			if _, err := d.Do(a); err != nil {
				t.Fatal(err)
			}
			if i%3 == 0 {
				meddle(t, d)
			}
		}
		c := d.Copy()
		if got, want := heldBy(c), heldBy(d); !got.is(want) {
			t.Fatalf("got %+v, want %+v", got, want)
		}
		for _, a := range asks[many:] {
			want, wrong := d.Do(a)
			got, err := c.Do(a)
			if !slices.Equal(got, want) || plain.Told(err) != plain.Told(wrong) || !heldBy(c).is(heldBy(d)) {
				t.Fatalf("Do(%+v): got %v, %v, want %v, %v", a, got, err, want, wrong)
			}
		}
	}
}

// What is done with a copy does nothing to the desk, and the other way.
func TestCopyIsApart(t *testing.T) {
	asks := steps()
	for many := range len(asks) + 1 {
		for _, isCopy := range []bool{true, false} {
			d := made(t)
			for _, a := range asks[:many] {
				if _, err := d.Do(a); err != nil {
					t.Fatal(err)
				}
				if a.N%4 == 0 {
					meddle(t, d)
				}
			}
			still, other := d, d.Copy()
			if !isCopy {
				still, other = other, still
			}
			want := heldBy(still)
			meddle(t, other)
			for _, a := range asks[many:] {
				if _, err := other.Do(a); err != nil {
					t.Fatal(err)
				}
				meddle(t, other)
			}
			for _, name := range other.Names() {
				wantDone(t, other, drop(name))
			}
			if got := heldBy(still); !got.is(want) {
				t.Fatalf("behind %d steps: got %+v, want %+v", many, got, want)
			}
		}
	}
}
