package times_test

import (
	"slices"
	"testing"

	"chimework/api"
	"chimework/times"
)

// From is just at from, one minute ahead of it, just at to, and one minute ahead of it.
func TestEndsOfAStretch(t *testing.T) {
	at := timeOf(t, "2026-11-16 09:30")
	for _, ahead := range []int{0, 60, -300, 900, -900} {
		z, e := zoneOf(ahead), once(at+ahead, 30)
		is := []api.Time{span(at+ahead, at, 30)}
		for _, long := range []int{1, 2, 1440, mostSpan} {
			wantBetween(t, z, e, at, at+long, is)
			wantBetween(t, z, e, at+1, at+1+long, nil)
			wantBetween(t, z, e, at-long, at, nil)
			wantBetween(t, z, e, at+1-long, at+1, is)
		}
		wantBetween(t, z, e, at, at, nil)
		wantBetween(t, z, e, at-1, at-1, nil)
		wantBetween(t, z, e, at+1, at+1, nil)
		// What has begun ahead of a stretch is not in it, though it goes on.
		wantBetween(t, z, e, at+10, at+20, nil)
	}
}

func TestHowLongAStretchMayBe(t *testing.T) {
	for _, e := range []api.Event{once(66730170, 0), repeated(t, 66730170, 90, "yearly"), repeated(t, 1, 0, "yearly every 50")} {
		for _, from := range []int{1, 2, 66730170, lastTime - mostSpan - 1, lastTime - mostSpan} {
			if _, err := times.Between(zoneOf(0), e, from, from+mostSpan); err != nil {
				t.Errorf("Between(%+v, %d, %d): %v", e, from, from+mostSpan, err)
			}
			wantNoBetween(t, zoneOf(0), e, from, from+mostSpan+1, api.ErrRange)
			wantNoBetween(t, zoneOf(0), e, from+1, from, api.ErrRange)
			wantNoBetween(t, zoneOf(0), e, from+mostSpan, from, api.ErrRange)
		}
		wantNoBetween(t, zoneOf(0), e, 1, lastTime, api.ErrRange)
		wantNoBetween(t, zoneOf(0), e, lastTime, 1, api.ErrRange)
		wantBetween(t, zoneOf(0), e, lastTime, lastTime, nil)
		wantBetween(t, zoneOf(0), e, 1, 1, nil)
	}
}

func TestHowManyAreTold(t *testing.T) {
	start := timeOf(t, "2026-11-16 09:30")
	z, daily := zoneOf(0), repeated(t, start, 20, "daily")
	full := spans(start, 1440, mostFull, 20)
	wantBetween(t, z, daily, start, start+199*1440+1, full)
	wantBetween(t, z, daily, start-1, start+200*1440, full)
	wantNoBetween(t, z, daily, start-1, start+200*1440+1, api.ErrFull)
	wantBetween(t, z, daily, start+1, start+200*1440+1, spans(start+1440, 1440, mostFull, 20))
	wantNoBetween(t, z, daily, start, start+mostSpan, api.ErrFull)
	wantBetween(t, z, repeated(t, start, 20, "daily count 200"), start, start+mostSpan, full)
	// Next is no matter of how many there are.
	wantNext(t, z, daily, start-1, full[0])
	wantNext(t, z, daily, start, full[1])

	long := func(change func(e *api.Event)) api.Event {
		e := daily
		change(&e)
		return e
	}
	first := start + 200*1440 // the 201st
	off := long(func(e *api.Event) { e.Changes = []api.Change{{At: first}} })
	away := long(func(e *api.Event) { e.Changes = []api.Change{{At: first, To: first + mostSpan}} })
	not := long(func(e *api.Event) { e.Not = []int{first} })
	for _, e := range []api.Event{off, away, not} {
		wantBetween(t, z, e, start, first+1, full)
		wantBetween(t, z, e, start, first+1440, full)
		wantNoBetween(t, z, e, start, first+1441, api.ErrFull)
	}
	gap := zoneOf(0, first, 1) // one minute is not there: that of the 201st
	wantBetween(t, gap, daily, start, first+1, full)
	wantNoBetween(t, zoneOf(0, first+1, 1), daily, start, first+1, api.ErrFull)
	into := long(func(e *api.Event) { e.Changes = []api.Change{{At: start + 500*1440, To: start + 7}} })
	wantNoBetween(t, z, into, start, first, api.ErrFull)
	wantBetween(t, z, into, start, first-1440, append([]api.Time{full[0], span(start+500*1440, start+7, 20)}, full[1:199]...))
}

// As many times as there may be are called off, so that the event has many more than are told.
func TestMoreTimesThanAreTold(t *testing.T) {
	start := timeOf(t, "2026-11-16 09:30")
	e := repeated(t, start, 20, "daily")
	e.Not = rising(start, 1440, mostList)
	for _, at := range rising(start+mostList*1440, 1440, mostList) {
		e.Changes = append(e.Changes, api.Change{At: at})
	}
	left := start + 2*mostList*1440
	wantBetween(t, zoneOf(0), e, start, left+200*1440, spans(left, 1440, mostFull, 20))
	wantNoBetween(t, zoneOf(0), e, start, left+200*1440+1, api.ErrFull)
	wantNext(t, zoneOf(0), e, start, span(left, left, 20))
}

// In the night of 2027-03-28 it is never from 02:00 to 02:59 there.
func TestGap(t *testing.T) {
	z := summers(t)
	for _, c := range []struct{ minute, from string }{
		{"01:59", "00:59"}, {"02:00", ""}, {"02:01", ""}, {"02:30", ""}, {"02:59", ""}, {"03:00", "01:00"}, {"03:01", "01:01"},
	} {
		there := timeOf(t, "2027-03-28 "+c.minute)
		var want []api.Time
		if c.from != "" {
			want = []api.Time{span(there, timeOf(t, "2027-03-28 "+c.from), 15)}
		}
		hold(t, z, once(there, 15), want)
		// It is when it really is that counts: what is moved into a gap is left out, what is moved out of it is there.
		other := timeOf(t, "2027-05-01 12:00")
		into := once(other, 15)
		into.Changes = []api.Change{{At: other, To: there}}
		for i := range want {
			want[i].Which = other
		}
		hold(t, z, into, want)
		out := once(there, 15)
		out.Changes = []api.Change{{At: there, To: other}}
		hold(t, z, out, []api.Time{span(there, other-120, 15)})
	}
	daily := repeated(t, timeOf(t, "2027-03-26 02:30"), 15, "daily count 5")
	hold(t, z, daily, listOf(t, 15, "2027-03-26 02:30>2027-03-26 01:30,2027-03-27 02:30>2027-03-27 01:30,2027-03-29 02:30>2027-03-29 00:30,2027-03-30 02:30>2027-03-30 00:30"))
}

// In the night of 2026-10-25 it is twice from 02:00 to 02:59 there: the first of both counts.
func TestTwice(t *testing.T) {
	z := summers(t)
	for _, c := range []struct{ minute, from string }{
		{"01:59", "2026-10-24 23:59"}, {"02:00", "2026-10-25 00:00"}, {"02:30", "2026-10-25 00:30"}, {"02:59", "2026-10-25 00:59"}, {"03:00", "2026-10-25 02:00"},
	} {
		there := timeOf(t, "2026-10-25 "+c.minute)
		hold(t, z, once(there, 90), []api.Time{span(there, timeOf(t, c.from), 90)})
	}
	e := once(timeOf(t, "2026-10-25 02:30"), 0)
	wantBetween(t, z, e, timeOf(t, "2026-10-25 00:31"), timeOf(t, "2026-10-25 01:31"), nil)
	wantNoNext(t, z, e, timeOf(t, "2026-10-25 00:30"), api.ErrNone)
}

// A stretch that was left out comes later, by a shift back, so that what is earlier there is later in the world.
func TestOrderByFrom(t *testing.T) {
	at := timeOf(t, "2026-11-16 12:00")
	z := zoneOf(0, at, 900, at+1440, -900)
	e := once(at+600, 10)
	e.More = []int{at + 899, at + 900, at + 901}
	hold(t, z, e, []api.Time{span(at+900, at, 10), span(at+901, at+1, 10), span(at+600, at+1500, 10), span(at+899, at+1799, 10)})
}

// To may be the last time, and not one minute behind it.
func TestLastEnd(t *testing.T) {
	for _, length := range []int{0, 1, 90, 1439, 1440, 100000} {
		for _, ahead := range []int{0, 60, 900, -60, -900} {
			at := lastTime - length
			if at+ahead <= lastTime {
				hold(t, zoneOf(ahead), once(at+ahead, length), []api.Time{span(at+ahead, at, length)})
			}
			if at+1+ahead <= lastTime {
				hold(t, zoneOf(ahead), once(at+1+ahead, length), nil)
				moved := once(66730170, length)
				moved.Changes = []api.Change{{At: 66730170, To: at + 1 + ahead}}
				hold(t, zoneOf(ahead), moved, nil)
			}
		}
	}
	daily := repeated(t, lastTime-2*1440-60, 60, "daily")
	hold(t, zoneOf(0), daily, spans(lastTime-2*1440-60, 1440, 3, 60))
	daily.Length = 61
	hold(t, zoneOf(0), daily, spans(lastTime-2*1440-60, 1440, 2, 61))
	daily.Length = 60 + 1440
	hold(t, zoneOf(0), daily, spans(lastTime-2*1440-60, 1440, 2, 60+1440))
	daily.Length = 60 + 1441
	hold(t, zoneOf(0), daily, spans(lastTime-2*1440-60, 1440, 1, 60+1441))
}

func TestLengthOfNoMinute(t *testing.T) {
	e := repeated(t, 66730170, 0, "daily count 2")
	wantBetween(t, zoneOf(60), e, 66730110, 66731550, []api.Time{{Which: 66730170, From: 66730110, To: 66730110}})
	wantNext(t, zoneOf(60), e, 66730110, api.Time{Which: 66731610, From: 66731550, To: 66731550})
}

// The first time and the last one, in zones that are ahead and behind by as much as may be.
func TestEndsOfTheCalendar(t *testing.T) {
	for _, ahead := range []int{-900, -899, -1, 0, 1, 899, 900} {
		z := zoneOf(ahead)
		for _, at := range []int{1, 2, 899, 900, 901, 1440, lastTime - 901, lastTime - 900, lastTime - 899, lastTime - 1, lastTime} {
			var want []api.Time
			if from := at - ahead; from >= 1 && from <= lastTime {
				want = []api.Time{span(at, from, 0)}
			}
			hold(t, z, once(at, 0), want)
			moved := once(66730170, 0)
			moved.Changes = []api.Change{{At: 66730170, To: at}}
			for i := range want {
				want[i].Which = 66730170
			}
			hold(t, z, moved, want)
		}
	}
	wantBetween(t, zoneOf(900), once(901, 5), 1, 2, []api.Time{span(901, 1, 5)})
	wantBetween(t, zoneOf(-900), once(1, 5), 901, 902, []api.Time{span(1, 901, 5)})
	wantNext(t, zoneOf(-900), once(lastTime-900, 0), lastTime-1, span(lastTime-900, lastTime, 0))
	wantNext(t, zoneOf(900), once(lastTime, 900), lastTime-901, span(lastTime, lastTime-900, 900))
	wantNext(t, zoneOf(900), once(902, 5), 1, span(902, 2, 5))
	wantNoNext(t, zoneOf(900), once(901, 5), 1, api.ErrNone)
}

// Zones that go from one bound to the other, around the ends of a stretch.
func TestFarShifts(t *testing.T) {
	at := timeOf(t, "2026-11-16 12:00")
	back, forth := zoneOf(900, at, -900), zoneOf(-900, at, 900)
	hold(t, back, once(at+899, 10), []api.Time{span(at+899, at-1, 10)})
	hold(t, back, once(at+900, 10), []api.Time{span(at+900, at+1800, 10)})
	hold(t, back, once(at-900, 10), []api.Time{span(at-900, at-1800, 10)})
	hold(t, forth, once(at-901, 10), []api.Time{span(at-901, at-1, 10)})
	hold(t, forth, once(at-900, 10), nil)
	hold(t, forth, once(at+899, 10), nil)
	hold(t, forth, once(at+900, 10), []api.Time{span(at+900, at, 10)})
	daily := repeated(t, at-1440, 10, "daily count 3")
	hold(t, back, daily, []api.Time{span(at-1440, at-2340, 10), span(at, at-900, 10), span(at+1440, at+2340, 10)})
	hold(t, forth, daily, []api.Time{span(at-1440, at-540, 10), span(at+1440, at+540, 10)})
}

// What is moved from ahead of the stretch is found where it really is, however far that is from its Which.
func TestMovedFarBehind(t *testing.T) {
	for _, text := range []string{"daily", "daily count 200", "weekly", "weekly every 50 count 200", "monthly", "yearly", "yearly count 200", "yearly every 50", "daily until 1900-01-10"} {
		for _, to := range []int{5 * mostSpan, 66730170, lastTime - 5000} {
			e := repeated(t, 600, 30, text)
			e.Changes = []api.Change{{At: 600, To: to}, {At: 601, To: to + 1}, {At: 602}}
			wantMoved(t, e, to, 600)
		}
	}
	e := once(600, 30)
	e.More = []int{602}
	e.Changes = []api.Change{{At: 600, To: 66730170}, {At: 601, To: 66730171}, {At: 602, To: 66730172}}
	wantMoved(t, e, 66730170, 600)
	wantMoved(t, e, 66730172, 602)
}

// So is what is moved from behind the stretch: a time that the rule has after many others, or one of More.
func TestMovedFarAhead(t *testing.T) {
	for _, c := range []struct{ rule, far string }{
		{"daily", "2199-12-31 10:00"}, {"daily every 3", "2199-12-30 10:00"}, {"weekly", "2199-12-27 10:00"}, {"weekly on mo,tu,we,th,fr,sa,su", "2199-12-31 10:00"},
		{"monthly", "2199-12-01 10:00"}, {"yearly", "2199-01-01 10:00"}, {"yearly every 50", "2159-01-01 10:00"},
		{"yearly every 20 count 10", "2089-01-01 10:00"}, {"yearly count 200", "2108-01-01 10:00"}, {"monthly every 12 until 2199-01-01", "2199-01-01 10:00"},
	} {
		for _, to := range []int{600, 66730170, 80 * mostSpan} {
			e := repeated(t, timeOf(t, "1909-01-01 10:00"), 30, c.rule)
			far := timeOf(t, c.far)
			e.Changes = []api.Change{{At: far - 1, To: to + 1}, {At: far, To: to}, {At: far + 1}}
			wantMoved(t, e, to, far)
			// One of Not is none, though it has a Change.
			e.Not = []int{far}
			wantBetween(t, zoneOf(60), e, to-60, to-59, nil)
		}
	}
	e := once(lastTime-500, 30)
	e.More = []int{lastTime - 400}
	e.Changes = []api.Change{{At: lastTime - 500, To: 600}, {At: lastTime - 450, To: 601}, {At: lastTime - 400, To: 602}}
	wantMoved(t, e, 600, lastTime-500)
	wantMoved(t, e, 602, lastTime-400)
}

// wantMoved asks for the one Time that is in a minute, an hour ahead of when it is there, and for none where it would have been nor in the minutes beside.
func wantMoved(t *testing.T, e api.Event, there, which int) {
	t.Helper()
	z, at, was := zoneOf(60), there-60, which-60
	want := span(which, at, e.Length)
	wantBetween(t, z, e, at, at+1, []api.Time{want})
	wantBetween(t, z, e, at-1, at, nil)
	wantBetween(t, z, e, at+1, at+2, nil)
	wantNext(t, z, e, at-1, want)
	wantBetween(t, z, e, was, was+1, nil)
}

// As many are moved as may be, of days that are counted and of others, to one time and to several.
func TestAllMoved(t *testing.T) {
	start, to := timeOf(t, "1900-01-10 09:30"), timeOf(t, "2150-06-01 10:00")
	for _, text := range []string{"daily count 100", "daily until 1900-04-19", "daily count 100 months 1,2,3,4"} {
		for _, by := range []int{0, 1, -1, 7} {
			e := repeated(t, start, 5, text)
			var want []api.Time
			for i, at := range rising(start, 1440, mostList) {
				e.Changes = append(e.Changes, api.Change{At: at, To: to + i*by})
				want = append(want, span(at, to+i*by+30, 5))
			}
			if by < 0 {
				slices.Reverse(want)
			}
			for _, from := range []int{to - mostSpan/2, to - 69, to - 1, to + 29, to + 30, to + 31, to + 60} {
				holdBetween(t, zoneOf(-30), e, from, from+mostSpan, want)
				holdBetween(t, zoneOf(-30), e, from, from+50, want)
				holdNext(t, zoneOf(-30), e, from, want)
			}
			holdBetween(t, zoneOf(-30), e, start, start+mostSpan, want)
		}
	}
}

// A time whose Which is in the stretch, and whose From is not, is not in it.
func TestMovedAway(t *testing.T) {
	start := timeOf(t, "2026-11-16 09:30")
	for _, to := range []int{1, start - mostSpan, start - 1440, start - 1, start + 1, start + 1440, start + mostSpan, lastTime - 10} {
		e := once(start, 10)
		e.Changes = []api.Change{{At: start, To: to}}
		wantBetween(t, zoneOf(0), e, start, start+1, nil)
		hold(t, zoneOf(0), e, []api.Time{span(start, to, 10)})
		if to < start {
			wantNoNext(t, zoneOf(0), e, start-1, api.ErrNone)
		}
	}
}

// Times that begin together stand by Which, wherever they were moved from.
func TestSameFrom(t *testing.T) {
	start := timeOf(t, "2026-11-16 09:30")
	for _, text := range []string{"daily count 5", "daily until 2026-11-20"} {
		e := repeated(t, start, 10, text)
		at := rising(start, 1440, 5)
		e.Changes = []api.Change{{At: at[0], To: at[2]}, {At: at[1], To: at[2]}, {At: at[4], To: at[2]}}
		hold(t, zoneOf(0), e, []api.Time{span(at[0], at[2], 10), span(at[1], at[2], 10), span(at[2], at[2], 10), span(at[4], at[2], 10), span(at[3], at[3], 10)})
		wantNext(t, zoneOf(0), e, at[2]-1, span(at[0], at[2], 10))
		// The one at which others are may be gone itself, or be moved to where another one was.
		e.Changes = []api.Change{{At: at[0], To: at[2]}, {At: at[2]}, {At: at[4], To: at[2]}}
		hold(t, zoneOf(0), e, []api.Time{span(at[1], at[1], 10), span(at[0], at[2], 10), span(at[4], at[2], 10), span(at[3], at[3], 10)})
		e.Changes = []api.Change{{At: at[0], To: at[1]}, {At: at[1], To: at[0]}, {At: at[2], To: at[4]}, {At: at[3], To: at[4]}}
		hold(t, zoneOf(0), e, []api.Time{span(at[1], at[0], 10), span(at[0], at[1], 10), span(at[2], at[4], 10), span(at[3], at[4], 10), span(at[4], at[4], 10)})
	}
}

// A Change of what is no time of the event is no matter.
func TestChangeOfNoTime(t *testing.T) {
	start := timeOf(t, "2026-11-16 09:30")
	for _, text := range []string{"", "daily count 3", "daily until 2026-11-18", "daily count 3 months 11", "weekly until 2026-11-18 on mo,tu,we"} {
		e := once(start, 10)
		e.More = []int{start + 1440, start + 2880}
		if text != "" {
			e = repeated(t, start, 10, text)
			e.More = []int{start + 70}
		}
		want := spans(start, 1440, 3, 10)
		e.Not = []int{start + 70, start + 4320}
		e.Changes = []api.Change{
			{At: 1, To: start + 5}, {At: start - 1440, To: start + 6}, {At: start - 1, To: start + 7}, {At: start + 1}, {At: start + 5, To: start + 1440},
			{At: start + 70, To: start + 8}, {At: start + 4320, To: start + 9}, {At: start + 7200, To: start + 10}, {At: lastTime, To: start + 11},
		}
		hold(t, zoneOf(0), e, want)
	}
}

// After is just a From, one minute ahead of it and one behind.
func TestNextNearAFrom(t *testing.T) {
	start := timeOf(t, "2026-11-16 09:30")
	for _, ahead := range []int{0, 60, 900, -900} {
		z, e := zoneOf(ahead), repeated(t, start, 10, "daily count 2")
		first, second := span(start, start-ahead, 10), span(start+1440, start+1440-ahead, 10)
		wantNext(t, z, e, first.From-2, first)
		wantNext(t, z, e, first.From-1, first)
		wantNext(t, z, e, first.From, second)
		wantNext(t, z, e, first.From+1, second)
		wantNext(t, z, e, second.From-1, second)
		wantNoNext(t, z, e, second.From, api.ErrNone)
		wantNoNext(t, z, e, second.From+1, api.ErrNone)
	}
}

// The next one is at most 500000 minutes above after.
func TestHowFarNextIs(t *testing.T) {
	for _, at := range []int{mostNext + 1, mostNext + 2, 66730170, lastTime - mostNext, lastTime - 10} {
		for _, ahead := range []int{0, 60, 900, -10, -900} {
			if at+ahead > lastTime {
				continue
			}
			z, e := zoneOf(ahead), once(at+ahead, 10)
			is := span(at+ahead, at, 10)
			wantNext(t, z, e, at-mostNext, is)
			wantNext(t, z, e, at-mostNext+1, is)
			if at > mostNext+1 {
				wantNoNext(t, z, e, at-mostNext-1, api.ErrNone)
			}
			moved := once(1, 10)
			moved.Changes = []api.Change{{At: 1, To: at + ahead}}
			is.Which = 1
			wantNext(t, z, moved, at-mostNext, is)
			if at > mostNext+1 {
				wantNoNext(t, z, moved, at-mostNext-1, api.ErrNone)
			}
		}
	}
	yearly := repeated(t, 66730170, 10, "yearly")
	wantNoNext(t, zoneOf(0), yearly, 66730170, api.ErrNone)
	wantNext(t, zoneOf(0), yearly, 66730170+365*1440-mostNext, span(66730170+365*1440, 66730170+365*1440, 10))
}

// After is the first time, and the last one.
func TestNextAtTheEnds(t *testing.T) {
	daily := repeated(t, 1, 10, "daily")
	wantNext(t, zoneOf(0), daily, 1, span(1441, 1441, 10))
	wantNext(t, zoneOf(0), once(2, 10), 1, span(2, 2, 10))
	wantNoNext(t, zoneOf(0), once(1, 10), 1, api.ErrNone)
	wantNext(t, zoneOf(0), once(lastTime, 0), lastTime-1, span(lastTime, lastTime, 0))
	for _, ahead := range []int{-900, 0, 900} {
		for _, e := range []api.Event{daily, once(1, 0), once(lastTime, 0), once(lastTime-900, 0)} {
			wantNoNext(t, zoneOf(ahead), e, lastTime, api.ErrNone)
		}
	}
}
