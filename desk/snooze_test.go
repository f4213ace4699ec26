package desk_test

import (
	"math"
	"slices"
	"testing"

	"chimework/api"
	"chimework/desk"
)

// rungAt makes a desk at which a and b rang at begin, and it is so many minutes later.
func rungAt(t *testing.T, later int) *desk.Desk {
	t.Helper()
	d := running(t, begin-1, once("a", begin, 0, api.Alarm{}), once("b", begin, 0, api.Alarm{}))
	wantDone(t, d, tick(begin), bell("a", begin), bell("b", begin))
	if later > 0 {
		wantDone(t, d, tick(begin+later))
	}
	return d
}

// others are as a given ring but for one field each.
func others(r api.Ring) []api.Ring {
	list := list(r, r, r, r, r, r, r)
	list[0].At++
	list[1].At--
	list[2].Name += "a"
	list[3].Name = ""
	list[4].Which--
	list[5].Alarm++
	list[6].Turn++
	return append(list, api.Ring{})
}

// A Ring that has rung has so no more; each once, and just that one.
func TestDone(t *testing.T) {
	a, b := bell("a", begin), bell("b", begin)
	for _, later := range []int{0, 1, 5000} {
		d := rungAt(t, later)
		for _, r := range slices.Concat(others(a), others(b)) {
			wantRefused(t, d, done(r), api.ErrNone)
		}
		wantDone(t, d, done(a))
		wantRung(t, d, b)
		wantSnoozed(t, d)
		wantRefused(t, d, done(a), api.ErrNone)
		wantDone(t, d, done(b))
		wantRung(t, d)
		wantRefused(t, d, done(b), api.ErrNone)
		wantDone(t, d, tick(begin+9000))
		wantRung(t, d)
		wantNames(t, d, "a b")
	}
}

// Nothing has rung ahead of the first Tick, nor at it.
func TestNothingHasRungYet(t *testing.T) {
	d := made(t)
	ask := func() {
		for _, r := range append(others(bell("a", begin)), bell("a", begin)) {
			wantRefused(t, d, done(r), api.ErrNone)
			wantRefused(t, d, snooze(r, 1), api.ErrNone)
			wantRefused(t, d, snooze(r, longest), api.ErrNone)
			wantRefused(t, d, snooze(r, 0), api.ErrRange)
			wantRefused(t, d, snooze(r, longest+1), api.ErrRange)
		}
	}
	ask()
	wantDone(t, d, put(once("a", begin, 0, api.Alarm{})))
	ask()
	wantDone(t, d, tick(begin))
	ask()
	wantDone(t, d, tick(begin+1))
	ask()
}

// A Ring that is snoozed is told ahead of, at and behind its time, as many minutes behind Now, not behind its own At.
func TestSnooze(t *testing.T) {
	a, b := bell("a", begin), bell("b", begin)
	for _, later := range []int{0, 1, 77, 20000} {
		for _, minutes := range []int{1, 2, 10, longest - 1, longest} {
			d := rungAt(t, later)
			at := begin + later + minutes
			wantDone(t, d, snooze(a, minutes))
			wantNow(t, d, begin+later)
			wantRung(t, d, b)
			wantSnoozed(t, d, moved(a, at))
			wantRefused(t, d, done(a), api.ErrNone)
			wantRefused(t, d, done(moved(a, at)), api.ErrNone)
			wantRefused(t, d, snooze(a, minutes), api.ErrNone)
			wantRefused(t, d, snooze(moved(a, at), minutes), api.ErrNone)
			if minutes > 1 {
				wantDone(t, d, tick(at-1))
				wantSnoozed(t, d, moved(a, at))
			}
			wantDone(t, d, tick(at), moved(a, at))
			wantRung(t, d, b, moved(a, at))
			wantSnoozed(t, d)
			wantDone(t, d, tick(at+1))
			wantRefused(t, d, done(a), api.ErrNone)
			wantDone(t, d, done(moved(a, at)))
			wantRung(t, d, b)

			d = rungAt(t, later)
			wantDone(t, d, snooze(a, minutes))
			wantDone(t, d, tick(at+333), moved(a, at))
			wantSnoozed(t, d)
			wantDone(t, d, tick(at+999))
		}
	}
}

// A Ring that is snoozed, and rings, may be snoozed again, and again.
func TestSnoozeAgain(t *testing.T) {
	d := rungAt(t, 3)
	r, now := bell("a", begin), begin+3
	for i := range 50 {
		minutes := 1 + i*7%90
		wantDone(t, d, snooze(r, minutes))
		r.At = now + minutes
		now = r.At + i%4
		wantSnoozed(t, d, r)
		wantDone(t, d, tick(now), r)
		wantRung(t, d, bell("b", begin), r)
		wantSnoozed(t, d)
	}
}

// Snoozed are by Order, whichever was snoozed first, and are told in it, each at its time.
func TestSnoozedByOrder(t *testing.T) {
	var events []api.Event
	var rings []api.Ring
	for _, name := range []string{"a", "aa", "ab", "b"} {
		events = append(events, once(name, begin+1, 0, api.Alarm{}, api.Alarm{}))
		other := bell(name, begin+1)
		other.Alarm = 1
		rings = append(rings, bell(name, begin+1), other)
	}
	for turn := range len(rings) {
		d := running(t, begin, events...)
		wantDone(t, d, tick(begin+5), rings...)
		var want []api.Ring
		for i := range rings {
			k := (i*3 + turn) % len(rings)
			minutes := 1 + k*5%4
			wantDone(t, d, snooze(rings[k], minutes))
			want = append(want, moved(rings[k], begin+5+minutes))
			slices.SortFunc(want, byFields)
			wantSnoozed(t, d, want...)
		}
		for n := begin + 6; len(want) > 0; n++ {
			cut := slices.IndexFunc(want, func(r api.Ring) bool { return r.At > n })
			if cut < 0 {
				cut = len(want)
			}
			wantDone(t, d, tick(n), want[:cut]...)
			want = want[cut:]
			wantSnoozed(t, d, want...)
		}
	}
}

// A Ring is snoozed to where others of its event, of which but one field is another one, ring by themselves: all are told, each once.
func TestSnoozedBesideOthers(t *testing.T) {
	e := once("a", begin, 0, api.Alarm{Repeat: 2, Between: 10}, api.Alarm{Offset: 20})
	e.More = []int{begin + 10, begin + 20}
	d := running(t, begin-1, e)
	of := func(at, which, number, turn int) api.Ring {
		return api.Ring{At: begin + at, Name: "a", Which: begin + which, Alarm: number, Turn: turn}
	}
	wantDone(t, d, tick(begin+5), of(0, 0, 0, 0))
	wantDone(t, d, snooze(of(0, 0, 0, 0), 15))
	wantDone(t, d, tick(begin+10), of(10, 0, 0, 1), of(10, 10, 0, 0))
	wantDone(t, d, snooze(of(10, 10, 0, 0), 10))
	wantSnoozed(t, d, of(20, 0, 0, 0), of(20, 10, 0, 0))
	wantDone(t, d, tick(begin+20), of(20, 0, 0, 0), of(20, 0, 0, 2), of(20, 0, 1, 0), of(20, 10, 0, 0), of(20, 10, 0, 1), of(20, 20, 0, 0))
	wantRung(t, d, of(10, 0, 0, 1), of(20, 0, 0, 0), of(20, 0, 0, 2), of(20, 0, 1, 0), of(20, 10, 0, 0), of(20, 10, 0, 1), of(20, 20, 0, 0))
}

// wrongMinutes are none that a Ring may be snoozed for.
var wrongMinutes = []int{math.MinInt, math.MinInt + begin, -longest, -1, 0, longest + 1, longest + 2, mostSpan, lastTime, math.MaxInt - begin, math.MaxInt - begin + 1, math.MaxInt}

// N is not from 1 to longest: whether the Ring has rung or not.
func TestSnoozeForWrongMinutes(t *testing.T) {
	d := rungAt(t, 5)
	for _, n := range wrongMinutes {
		wantRefused(t, d, snooze(bell("a", begin), n), api.ErrRange)
		wantRefused(t, d, snooze(bell("a", begin+1), n), api.ErrRange)
		wantRefused(t, d, snooze(api.Ring{}, n), api.ErrRange)
	}
	for _, r := range others(bell("a", begin)) {
		wantRefused(t, d, snooze(r, 1), api.ErrNone)
		wantRefused(t, d, snooze(r, longest), api.ErrNone)
	}
	wantDone(t, d, snooze(bell("a", begin), 1))
	wantDone(t, d, snooze(bell("b", begin), longest))
}

// There is no time behind the calendar to which a Ring could be snoozed.
func TestSnoozeBehindTheCalendar(t *testing.T) {
	for _, left := range []int{0, 1, 2, 9999, longest} {
		start := lastTime - left
		d := running(t, start-1, once("a", start, 0, api.Alarm{}))
		r := bell("a", start)
		wantDone(t, d, tick(start), r)
		for _, n := range []int{left + 1, left + 2, longest, longest + 1} {
			if n > left {
				wantRefused(t, d, snooze(r, n), api.ErrRange)
				wantRefused(t, d, snooze(moved(r, 1), n), api.ErrRange)
			}
		}
		if left == 0 {
			wantDone(t, d, done(r))
			continue
		}
		wantRefused(t, d, snooze(moved(r, 1), left), api.ErrNone)
		wantDone(t, d, snooze(r, left))
		wantSnoozed(t, d, moved(r, lastTime))
		wantDone(t, d, tick(lastTime), moved(r, lastTime))
		wantRefused(t, d, snooze(moved(r, lastTime), 1), api.ErrRange)
	}
}

// fullOfSnoozed makes a desk with as many that are snoozed as may be, all to a time that it tells, and one more of a and of b each that has rung.
func fullOfSnoozed(t *testing.T) (*desk.Desk, int, []api.Ring) {
	t.Helper()
	half := mostRings / 2
	d := running(t, begin-1, repeated(t, "a", begin, 0, "daily until 2027-06-04", api.Alarm{}), repeated(t, "b", begin, 0, "daily until 2027-06-04", api.Alarm{}))
	last := begin + (half-1)*dayLong
	wantMany(t, d, tick(last), mostRings)
	for _, r := range d.Rung() {
		wantDone(t, d, snooze(r, longest))
	}
	more := list(bell("a", last+dayLong), bell("b", last+dayLong))
	wantDone(t, d, tick(last+dayLong), more...)
	if many := len(d.Snoozed()); many != mostRings {
		t.Fatalf("%d are snoozed", many)
	}
	return d, last + longest, more
}

// As many as may be are snoozed, and one more.
func TestHowManyAreSnoozed(t *testing.T) {
	d, at, more := fullOfSnoozed(t)
	for _, r := range more {
		wantRefused(t, d, snooze(r, 1), api.ErrFull)
		wantRefused(t, d, snooze(r, longest), api.ErrFull)
		// ErrRange comes first, then ErrNone.
		for _, n := range wrongMinutes {
			wantRefused(t, d, snooze(r, n), api.ErrRange)
			wantRefused(t, d, snooze(moved(r, at), n), api.ErrRange)
		}
		for _, other := range append(others(r), d.Snoozed()[0], moved(r, at)) {
			if !slices.Contains(more, other) {
				wantRefused(t, d, snooze(other, 1), api.ErrNone)
			}
		}
	}
	// With those that have rung they would be too many, so the Tick is refused, and nothing is lost.
	wantDone(t, d, tick(at-1))
	wantRefused(t, d, tick(at), api.ErrFull)
	wantDone(t, d, done(more[0]))
	wantRefused(t, d, tick(at), api.ErrFull)
	wantDone(t, d, done(more[1]))
	told := wantMany(t, d, tick(at), mostRings)
	wantSnoozed(t, d)
	// All of them have room anew.
	for _, r := range told {
		wantDone(t, d, snooze(r, 5))
	}
	wantRung(t, d)
	wantMany(t, d, tick(at+5), mostRings)
}

// What is snoozed leaves with its event, and makes room.
func TestRoomBehindADropOfSnoozed(t *testing.T) {
	for _, a := range []api.Ask{drop("b"), put(once("b", begin, 0))} {
		d, at, more := fullOfSnoozed(t)
		wantDone(t, d, a)
		if many := len(d.Snoozed()); many != mostRings/2 {
			t.Fatalf("%d are snoozed", many)
		}
		wantRung(t, d, more[0])
		wantDone(t, d, snooze(more[0], 1))
		wantMany(t, d, tick(at), mostRings/2+1)
	}
}

// A Tick that is refused leaves all that is snoozed, and tells it later, at its time.
func TestRefusedTickLeavesSnoozed(t *testing.T) {
	d := rungAt(t, 0)
	a, b := bell("a", begin), bell("b", begin)
	wantDone(t, d, snooze(a, 10))
	wantDone(t, d, snooze(b, 20))
	wantDone(t, d, put(repeated(t, "c", begin+dayLong, 0, "daily", api.Alarm{})))
	for _, n := range []int{begin + mostRings*dayLong, begin + 399*dayLong, begin + mostSpan} {
		wantRefused(t, d, tick(n), api.ErrFull)
	}
	wantDone(t, d, tick(begin+15), moved(a, begin+10))
	wantRefused(t, d, tick(begin+399*dayLong), api.ErrFull)
	wantSnoozed(t, d, moved(b, begin+20))
	wantRung(t, d, moved(a, begin+10))
	told := wantMany(t, d, tick(begin+399*dayLong-1), 399)
	if told[0] != moved(b, begin+20) {
		t.Errorf("got %v first", told[0])
	}
}
