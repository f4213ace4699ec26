package log_test

import (
	"math"
	"testing"

	"chimework/api"
	"chimework/log"
	"chimework/plain"
)

// wrongAsks have an error of a desk's, whatever is on it: one that no event of these names and no ring is on.
func wrongAsks() map[api.Errno][]api.Ask {
	return map[api.Errno][]api.Ask{
		api.ErrRange:  {{}, {What: 6}, {What: -1}, {What: math.MaxInt}, {What: math.MinInt}, tick(0), tick(-1), tick(lastTime + 1), tick(math.MaxInt), snooze(api.Ring{}, 0), snooze(api.Ring{}, 10001), put(once("a", 0)), put(once("a", begin, api.Alarm{Offset: 100001}))},
		api.ErrSyntax: {put(api.Event{}), put(once("A", begin)), put(once("toolonger", begin)), put(api.Event{Name: "a", Start: begin, Text: "\x00"})},
		api.ErrShape:  {put(api.Event{Name: "a", Start: begin, Rule: api.Rule{Freq: api.Daily, Every: 1}})},
		api.ErrFull:   {put(api.Event{Name: "a", Start: begin, More: make([]int, 101)}), put(once("a", begin, make([]api.Alarm, 5)...))},
		api.ErrNone:   {drop(""), drop("nobody"), drop("a\x00"), done(api.Ring{}), done(bell("nobody", begin)), snooze(api.Ring{}, 1)},
		api.ErrClash:  {put(api.Event{Name: "a", Start: begin, Not: []int{2, 2}})},
	}
}

// wantWrong asks that each of them has its error, and that nothing is changed.
func wantWrong(t *testing.T, l *log.Log) {
	t.Helper()
	for told, asks := range wrongAsks() {
		for _, a := range asks {
			wantRefused(t, l, a, told)
		}
	}
	if now := l.Desk().Now(); now != 0 {
		wantRefused(t, l, tick(now), api.ErrState)
		wantRefused(t, l, tick(now+mostSpan+1), api.ErrRange)
	}
}

// wantStopped asks that it has stopped: whatever is asked is ErrState, and nothing is changed by it.
func wantStopped(t *testing.T, l *log.Log) {
	t.Helper()
	for range 2 {
		for _, asks := range wrongAsks() {
			for _, a := range asks {
				wantRefused(t, l, a, api.ErrState)
			}
		}
		for _, a := range []api.Ask{tick(lastTime), tick(l.Desk().Now() + 1), put(once("a", begin)), drop("meet"), drop("call"), drop("a")} {
			wantRefused(t, l, a, api.ErrState)
		}
		for _, r := range l.Desk().Rung() {
			wantRefused(t, l, done(r), api.ErrState)
			wantRefused(t, l, snooze(r, 1), api.ErrState)
		}
		wantNoSync(t, l)
	}
}

// wantStops asks that it stops at an ask: half a record more is there, and nothing else is changed.
func wantStops(t *testing.T, l *log.Log, a api.Ask, record int) {
	t.Helper()
	before, desk, bytes, safe := heldBy(l.Desk()), l.Desk(), l.Bytes(), l.Safe()
	got, err := l.Do(a)
	if len(got) != 0 || plain.Told(err) != api.ErrState {
		t.Fatalf("Do(%+v): got %v, %v, want none, ErrState", a, got, err)
	}
	wantSize(t, l, bytes+record/2, safe)
	if after := heldBy(l.Desk()); !after.is(before) {
		t.Fatalf("Do(%+v) changed the desk: %+v, it was %+v", a, after, before)
	}
	// A desk that was told ahead of it is the log's, too.
	if after := heldBy(desk); !after.is(before) {
		t.Fatalf("Do(%+v) changed the desk that was told ahead of it: %+v, it was %+v", a, after, before)
	}
}

// Each ask of a story is the step that stops; behind a Crash, whatever it keeps, it is not there, and all goes on.
func TestStopsAtEachAsk(t *testing.T) {
	z, asks := story(t)
	ends := ends(t, z, asks...)
	for i, a := range asks {
		record := ends[i+1] - ends[i]
		for _, c := range []struct{ safe, keep int }{{0, 0}, {0, ends[i]}, {0, ends[i] + record/2}, {0, ends[i] + record}, {0, math.MaxInt}, {i, -1}, {i, 0}, {i, 1}, {i, record / 2}, {i, record}, {i, math.MaxInt}, {i / 2, math.MaxInt}} {
			l := logOf(t, z, asks[:c.safe]...)
			wantSync(t, l)
			l.Fail(i - c.safe)
			doAll(t, l, asks[c.safe:i]...)
			wantWrong(t, l)
			wantStops(t, l, a, record)
			wantStopped(t, l)
			l.Crash(c.keep)
			many := wholeAt(ends[:i+1], ends[c.safe]+max(0, min(c.keep, ends[i+1])))
			wantLeft(t, l, z, asks, many, ends[many])
		}
	}
}

// So many steps: of asks that are done and of Syncs, but not of asks with an error.
func TestWhichStep(t *testing.T) {
	asks := []api.Ask{put(once("a", begin+5, api.Alarm{})), tick(begin), tick(begin + 7), done(bell("a", begin+5)), drop("a"), tick(begin + 9)}
	z := zoneOf(0)
	// A mark for each step: an ask that is done, or a Sync.
	for _, steps := range []string{"dddddd", "sdsdsd", "ssdssd", "dsdsds", "ddssdd", "ssssss", "dddsss", "sssddd"} {
		for n := range len(steps) + 2 {
			l := madeIn(t, z)
			l.Fail(n)
			bytes, next := 0, 0
			for i, step := range steps {
				wantWrong(t, l)
				switch {
				case i == n && step == 'd':
					wantStops(t, l, asks[next], sizeOf(t, z, asks[:next], asks[next]))
				case i == n:
					wantNoSync(t, l)
					wantSize(t, l, bytes, l.Safe())
				case step == 'd':
					doAll(t, l, asks[next])
					bytes, next = l.Bytes(), next+1
				default:
					wantSync(t, l)
				}
				if i == n {
					wantStopped(t, l)
					break
				}
			}
			wantHeld(t, l, deskOf(t, z, asks[:next]...))
			if n < len(steps) {
				wantStopped(t, l)
			}
			l.Crash(math.MaxInt)
			wantLeft(t, l, z, asks, next, bytes)
		}
	}
}

// An ask with an error of the desk's still says so where the next step would stop it, and is no step.
func TestErrorsAheadOfTheStop(t *testing.T) {
	z, asks := story(t)
	for i, a := range asks {
		l := logOf(t, z, asks[:i]...)
		l.Fail(0)
		wantWrong(t, l)
		wantWrong(t, l)
		wantStops(t, l, a, sizeOf(t, z, asks[:i], a))
		wantStopped(t, l)
	}
	// So does a full desk, and what would ring too often.
	l := madeIn(t, z)
	for i := range 20 {
		doAll(t, l, put(repeated(t, "e"+string(rune('a'+i)), begin, "daily", api.Alarm{Repeat: 5, Between: 1})))
	}
	doAll(t, l, tick(begin-1))
	l.Fail(0)
	wantRefused(t, l, put(once("a", begin)), api.ErrFull)
	wantRefused(t, l, tick(begin+40*dayLong), api.ErrFull)
	wantNoSync(t, l)
	wantRefused(t, l, put(once("a", begin)), api.ErrState)
}

// The step that stops it is a Sync: nothing is safe that was not.
func TestStopsAtSync(t *testing.T) {
	z, asks := story(t)
	ends := ends(t, z, asks...)
	for safe := range asks {
		for _, keep := range []int{math.MinInt, -1, 0, ends[safe+1] - ends[safe] - 1, ends[safe+1] - ends[safe], math.MaxInt} {
			l := logOf(t, z, asks[:safe]...)
			wantSync(t, l)
			doAll(t, l, asks[safe:]...)
			l.Fail(0)
			wantNoSync(t, l)
			wantSize(t, l, ends[len(asks)], ends[safe])
			wantStopped(t, l)
			l.Crash(keep)
			many := safe
			switch {
			case keep == math.MaxInt:
				many = len(asks)
			case keep == ends[safe+1]-ends[safe]:
				many++
			}
			wantLeft(t, l, z, asks, many, ends[many])
		}
	}
}

// Below 0 it never stops, and a new Fail takes the place of the one ahead.
func TestFailAnew(t *testing.T) {
	z, asks := story(t)
	for _, said := range [][]int{{-1}, {math.MinInt}, {0, -1}, {5, -7}, {math.MaxInt}, {0, math.MaxInt}, {-1, 1000}, {3, 0, -1}, {len(asks) + 1}, {0, len(asks) + 1}} {
		l := madeIn(t, z)
		for _, n := range said {
			l.Fail(n)
		}
		doAll(t, l, asks...)
		wantSync(t, l)
		wantHeld(t, l, deskOf(t, z, asks...))
	}
	for _, c := range []struct {
		said []int
		n    int
	}{{[]int{-1, 0}, 0}, {[]int{0, 3}, 3}, {[]int{3, 0}, 0}, {[]int{math.MaxInt, 2}, 2}, {[]int{math.MinInt, 1}, 1}, {[]int{2, -1, 4}, 4}} {
		l := madeIn(t, z)
		for _, n := range c.said {
			l.Fail(n)
		}
		doAll(t, l, asks[:c.n]...)
		wantStops(t, l, asks[c.n], sizeOf(t, z, asks[:c.n], asks[c.n]))
		wantStopped(t, l)
	}
	// From now: the steps ahead of it do not count.
	l := logOf(t, z, asks[:2]...)
	l.Fail(3)
	doAll(t, l, asks[2:4]...)
	l.Fail(3)
	doAll(t, l, asks[4:7]...)
	wantNoSync(t, l)
	wantStopped(t, l)
}

// Once it has stopped only a Crash makes it go on, whatever Fail says behind that, and what it said is forgotten then.
func TestFailWhereItHasStopped(t *testing.T) {
	z, asks := story(t)
	ends := ends(t, z, asks...)
	for _, said := range [][]int{nil, {-1}, {0}, {1}, {5}, {-1, 0}, {math.MaxInt}, {math.MinInt}} {
		for _, atSync := range []bool{true, false} {
			l := logOf(t, z, asks[:5]...)
			l.Fail(0)
			if atSync {
				wantNoSync(t, l)
			} else {
				wantStops(t, l, asks[5], ends[6]-ends[5])
			}
			for _, n := range said {
				l.Fail(n)
				wantStopped(t, l)
			}
			l.Crash(math.MaxInt)
			wantSync(t, l)
			wantLeft(t, l, z, asks, 5, ends[5])
			wantSync(t, l)
		}
	}
}

// What Fail said is forgotten behind a Crash, also where it had not stopped yet; it may be said anew.
func TestForgotten(t *testing.T) {
	z, asks := story(t)
	for _, n := range []int{0, 1, 2, 7, math.MaxInt} {
		l := logOf(t, z, asks[:4]...)
		l.Fail(n)
		l.Crash(math.MaxInt)
		doAll(t, l, asks[4:]...)
		wantSync(t, l)
		wantHeld(t, l, deskOf(t, z, asks...))
	}
	l := madeIn(t, z)
	for i, a := range asks {
		record := sizeOf(t, z, asks[:i], a)
		l.Fail(0)
		wantStops(t, l, a, record)
		l.Crash(math.MaxInt)
		l.Fail(1)
		doAll(t, l, a)
		wantNoSync(t, l)
		l.Crash(record)
		wantHeld(t, l, deskOf(t, z, asks[:i+1]...))
		wantSize(t, l, l.Bytes(), l.Bytes())
	}
}
