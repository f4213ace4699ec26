package log_test

import (
	"math"
	"slices"
	"testing"

	"chimework/api"
	"chimework/log"
)

// wantLeft asks that just the first asks, so many, are left behind a Crash, all of them safe, and that it goes on with them.
func wantLeft(t *testing.T, l *log.Log, z api.Zone, asks []api.Ask, many, bytes int) {
	t.Helper()
	wantSize(t, l, bytes, bytes)
	d := deskOf(t, z, asks[:many]...)
	wantHeld(t, l, d)
	for _, a := range asks[many:] {
		wantSame(t, l, d, a)
	}
	wantSize(t, l, ends(t, z, asks...)[len(asks)], bytes)
	for n := d.Now() + 1; n < begin+30*dayLong; n += 1 + n%9000 {
		wantSame(t, l, d, tick(n))
	}
}

// wholeAt tells how many records end at a place or ahead of it.
func wholeAt(ends []int, place int) int {
	many := 0
	for many+1 < len(ends) && ends[many+1] <= place {
		many++
	}
	return many
}

// Cut off at each place, with nothing that is safe: what belongs to no whole record is gone.
func TestCutAtEachPlace(t *testing.T) {
	z, asks := story(t)
	ends := ends(t, z, asks...)
	for keep := -1; keep <= ends[len(asks)]+1; keep++ {
		l := logOf(t, z, asks...)
		l.Crash(keep)
		many := wholeAt(ends, keep)
		wantSize(t, l, ends[many], ends[many])
		wantHeld(t, l, deskOf(t, z, asks[:many]...))
	}
}

// Cut off beside the end of each record, and it goes on behind that.
func TestCutAtTheEnds(t *testing.T) {
	z, asks := story(t)
	ends := ends(t, z, asks...)
	for many, end := range ends {
		for _, c := range []struct{ keep, want int }{{end - 2, many - 1}, {end - 1, many - 1}, {end, many}, {end + 1, many}} {
			if c.keep < 0 {
				continue
			}
			l := logOf(t, z, asks...)
			l.Crash(c.keep)
			wantLeft(t, l, z, asks, c.want, ends[c.want])
		}
	}
}

// What is safe is kept, whatever is lost, and of what is not the first bytes.
func TestSafeIsKept(t *testing.T) {
	z, asks := story(t)
	ends := ends(t, z, asks...)
	last := ends[len(asks)]
	for safe := range len(asks) + 1 {
		free := last - ends[safe]
		for _, c := range []struct{ keep, place int }{
			{math.MinInt, ends[safe]}, {-last, ends[safe]}, {-1, ends[safe]}, {0, ends[safe]}, {1, ends[safe] + 1}, {2, ends[safe] + 2},
			{free / 2, ends[safe] + free/2}, {free - 1, last - 1}, {free, last}, {free + 1, last}, {last + 1, last}, {math.MaxInt - last, last}, {math.MaxInt - 1, last}, {math.MaxInt, last},
		} {
			l := logOf(t, z, asks[:safe]...)
			wantSync(t, l)
			doAll(t, l, asks[safe:]...)
			l.Crash(c.keep)
			many := max(wholeAt(ends, c.place), safe)
			wantLeft(t, l, z, asks, many, ends[many])
		}
	}
}

// Without a Sync, behind one, and behind one with more asks behind it.
func TestOfEachEvent(t *testing.T) {
	for _, z := range zones() {
		for _, e := range events(t) {
			asks := []api.Ask{put(once("first", begin, api.Alarm{})), put(e), tick(max(1, e.Start-3*dayLong))}
			for synced := range len(asks) + 1 {
				l := logOf(t, z, asks[:synced]...)
				wantSync(t, l)
				safe := l.Bytes()
				doAll(t, l, asks[synced:]...)
				bytes := l.Bytes()
				for _, keep := range []int{0, bytes} {
					l.Crash(keep)
					if keep == 0 {
						wantSize(t, l, safe, safe)
						wantHeld(t, l, deskOf(t, z, asks[:synced]...))
						doAll(t, l, asks[synced:]...)
						wantSize(t, l, bytes, safe)
					}
				}
				wantSize(t, l, bytes, bytes)
				d := deskOf(t, z, asks...)
				wantHeld(t, l, d)
				for i := range 12 {
					wantSame(t, l, d, tick(d.Now()+1+i*i*i*700))
				}
			}
		}
	}
}

// Crash twice, one behind the other, and going on behind each.
func TestCrashTwice(t *testing.T) {
	z, asks := story(t)
	ends := ends(t, z, asks...)
	for first := range asks {
		for second := range asks {
			l := logOf(t, z, asks...)
			l.Crash(ends[first])
			wantSize(t, l, ends[first], ends[first])
			l.Crash(0)
			wantSize(t, l, ends[first], ends[first])
			wantHeld(t, l, deskOf(t, z, asks[:first]...))
			doAll(t, l, asks[first:]...)
			l.Crash(ends[second] - ends[first])
			many := max(first, second)
			wantLeft(t, l, z, asks, many, ends[many])
		}
	}
}

// What was lost is gone for good: a later Crash, however much it keeps, brings nothing of it back, also where other asks stand in its place.
func TestLostIsLost(t *testing.T) {
	z, asks := story(t)
	ends := ends(t, z, asks...)
	for many := range asks {
		for _, keep := range []int{ends[many], ends[many] + 1, ends[many+1] - 1} {
			l := logOf(t, z, asks...)
			l.Crash(keep)
			l.Crash(math.MaxInt)
			wantSize(t, l, ends[many], ends[many])
			other := []api.Ask{put(once("new", begin+5000, api.Alarm{})), tick(begin + 5000), tick(begin + 5001), drop("new")}
			doAll(t, l, other...)
			l.Crash(math.MaxInt)
			wantHeld(t, l, deskOf(t, z, slices.Concat(asks[:many], other)...))
		}
	}
}

// Rings that are done or snoozed, and events that are gone, stay so, or are as they were ahead of that where just that is lost.
func TestDoneAndGone(t *testing.T) {
	a, b := bell("a", begin+1), bell("b", begin+1)
	asks := []api.Ask{
		put(once("a", begin+1, api.Alarm{})), put(once("b", begin+1, api.Alarm{})), tick(begin), tick(begin + 1),
		snooze(a, 5), done(b), tick(begin + 6), snooze(later(a, begin+6), 10000), drop("a"), put(once("a", begin+9, api.Alarm{})), tick(begin + 20),
	}
	l := madeIn(t, zoneOf(0))
	for _, c := range []struct {
		names         []string
		rung, snoozed []api.Ring
	}{
		{[]string{"a"}, nil, nil}, {[]string{"a", "b"}, nil, nil}, {[]string{"a", "b"}, nil, nil}, {[]string{"a", "b"}, []api.Ring{a, b}, nil},
		{[]string{"a", "b"}, []api.Ring{b}, []api.Ring{later(a, begin+6)}}, {[]string{"a", "b"}, nil, []api.Ring{later(a, begin+6)}},
		{[]string{"a", "b"}, []api.Ring{later(a, begin+6)}, nil}, {[]string{"a", "b"}, nil, []api.Ring{later(a, begin+10006)}},
		{[]string{"b"}, nil, nil}, {[]string{"a", "b"}, nil, nil}, {[]string{"a", "b"}, []api.Ring{bell("a", begin+9)}, nil},
	} {
		before := heldBy(l.Desk())
		doAll(t, l, asks[0])
		l.Crash(0)
		if h := heldBy(l.Desk()); !h.is(before) {
			t.Fatalf("without %+v: got %+v, want %+v", asks[0], h, before)
		}
		doAll(t, l, asks[0])
		l.Crash(l.Bytes())
		if d := l.Desk(); !slices.Equal(d.Names(), c.names) || !slices.Equal(d.Rung(), c.rung) || !slices.Equal(d.Snoozed(), c.snoozed) {
			t.Fatalf("behind %+v: got %+v, want %+v", asks[0], heldBy(d), c)
		}
		asks = asks[1:]
	}
}

// A desk that was told ahead of a Crash is touched no more by the log.
func TestDeskOfOld(t *testing.T) {
	z, asks := story(t)
	l := logOf(t, z, asks...)
	old := l.Desk()
	before := heldBy(old)
	l.Crash(0)
	doAll(t, l, put(once("new", begin, api.Alarm{})), tick(begin-1), tick(begin+1), snooze(later(bell("new", begin), begin), 3))
	if after := heldBy(old); !after.is(before) {
		t.Errorf("got %+v, it was %+v", after, before)
	}
}
