package alarm_test

import (
	"slices"
	"testing"

	"chimework/alarm"
	"chimework/api"
)

// At is just at from, one minute ahead of it, just at to, and one minute ahead of it.
func TestEndsOfAStretch(t *testing.T) {
	at := timeOf(t, "2026-11-16 09:30")
	for _, ahead := range []int{0, 60, -300, 900, -900} {
		for _, a := range []api.Alarm{{}, {Offset: -10}, {Offset: 10}, {Offset: -70, End: true}, {Offset: 2000, End: true}} {
			behind := a.Offset
			if a.End {
				behind += 30
			}
			z, e := zoneOf(ahead), once(at-behind+ahead, 30, a)
			is := ring(at, at-behind+ahead, 0, 0)
			for _, long := range []int{1, 2, 1440, mostSpan} {
				wantRings(t, z, e, at, at+long, is)
				wantRings(t, z, e, at+1, at+1+long)
				wantRings(t, z, e, at-long, at)
				wantRings(t, z, e, at+1-long, at+1, is)
			}
			for _, n := range []int{at - 1, at, at + 1} {
				wantRings(t, z, e, n, n)
			}
		}
	}
}

// Each turn is told where it is, though others of the same alarm are not in the stretch.
func TestEndsAmongTurns(t *testing.T) {
	at := timeOf(t, "2026-11-16 09:30")
	e := once(at, 30, api.Alarm{Repeat: 5, Between: 7})
	for first := range mostRepeat + 1 {
		for end := first; end <= mostRepeat+1; end++ {
			var want []api.Ring
			for turn := first; turn < end; turn++ {
				want = append(want, ring(at+turn*7, at, 0, turn))
			}
			wantRings(t, zoneOf(0), e, at+first*7, at+end*7, want...)
			wantRings(t, zoneOf(0), e, at+first*7-6, at+end*7-6, want...)
		}
	}
}

func TestHowLongAStretchMayBe(t *testing.T) {
	for _, e := range []api.Event{
		once(66730170, 0, api.Alarm{}), once(66730170, 0), repeated(t, 66730170, 90, "yearly", api.Alarm{Offset: -mostOffset}), repeated(t, 1, 0, "yearly every 50", api.Alarm{End: true, Repeat: 5, Between: 10000}),
	} {
		for _, from := range []int{1, 2, 66730170, lastTime - mostSpan - 1, lastTime - mostSpan} {
			if _, err := alarm.Rings(zoneOf(0), e, from, from+mostSpan); err != nil {
				t.Errorf("Rings(%+v, %d, %d): %v", e, from, from+mostSpan, err)
			}
			wantNoRings(t, zoneOf(0), e, from, from+mostSpan+1, api.ErrRange)
			wantNoRings(t, zoneOf(0), e, from+1, from, api.ErrRange)
			wantNoRings(t, zoneOf(0), e, from+mostSpan, from, api.ErrRange)
		}
		wantNoRings(t, zoneOf(0), e, 1, lastTime, api.ErrRange)
		wantNoRings(t, zoneOf(0), e, lastTime, 1, api.ErrRange)
		wantRings(t, zoneOf(0), e, lastTime, lastTime)
		wantRings(t, zoneOf(0), e, 1, 1)
	}
}

// farAlarms are as far from a Time as they can be, and the least and the most minutes that they ring behind it.
var farAlarms = []struct {
	alarm       api.Alarm
	length      int
	least, most int
}{
	{api.Alarm{Offset: -mostOffset}, 0, -100000, -100000},
	{api.Alarm{Offset: -mostOffset, End: true}, 0, -100000, -100000},
	{api.Alarm{Offset: -mostOffset, End: true}, mostLength, 0, 0},
	{api.Alarm{Offset: -mostOffset, Repeat: mostRepeat, Between: mostBetween}, mostLength, -100000, -50000},
	{api.Alarm{Offset: mostOffset}, mostLength, 100000, 100000},
	{api.Alarm{Offset: mostOffset, End: true}, 0, 100000, 100000},
	{api.Alarm{Offset: mostOffset, End: true}, mostLength, 200000, 200000},
	{api.Alarm{Offset: mostOffset, Repeat: mostRepeat, Between: mostBetween}, mostLength, 100000, 150000},
	{api.Alarm{Offset: mostOffset, End: true, Repeat: mostRepeat, Between: mostBetween}, mostLength, 200000, 250000},
}

// The Time is as far from the stretch in which it rings as it can be, alone and as the first or the last of many.
func TestFarAlarms(t *testing.T) {
	at := timeOf(t, "2026-11-16 09:30")
	for _, c := range farAlarms {
		alone := once(at, c.length, c.alarm)
		events := []api.Event{alone, repeated(t, at, c.length, "daily", c.alarm), repeated(t, at-300*1440, c.length, "daily until 2026-11-16", c.alarm), repeated(t, at-199*1440, c.length, "daily count 200", c.alarm)}
		for _, ahead := range []int{0, 900, -900} {
			z := zoneOf(ahead)
			first, last := at-ahead+c.least, at-ahead+c.most
			hold(t, z, alone, turnsOf(at-ahead, at, c.length, c.alarm))
			// No two turns of such an alarm are at the same minute of a day.
			for _, e := range events {
				wantRings(t, z, e, first, first+1, ring(first, at, 0, 0))
				wantRings(t, z, e, last, last+1, ring(last, at, 0, c.alarm.Repeat))
			}
		}
	}
}

// turnsOf an alarm that is alone.
func turnsOf(from, which, length int, a api.Alarm) []api.Ring {
	first := from + a.Offset
	if a.End {
		first += length
	}
	var list []api.Ring
	for turn := range a.Repeat + 1 {
		list = append(list, ring(first+turn*a.Between, which, 0, turn))
	}
	return list
}

// Alarms that are far ahead and far behind, of one event, so that Times on both sides of a stretch ring in it.
func TestFarOnBothSides(t *testing.T) {
	at := timeOf(t, "2026-11-16 09:30")
	e := once(at-250000, mostLength, api.Alarm{Offset: -mostOffset}, api.Alarm{Offset: mostOffset, End: true, Repeat: mostRepeat, Between: mostBetween})
	e.More = []int{at - 250001, at - 249999, at, at + 99999, at + 100000, at + 100001}
	slices.Sort(e.More)
	wantRings(t, zoneOf(0), e, at, at+1, ring(at, at-250000, 1, 5), ring(at, at+100000, 0, 0))
	wantRings(t, zoneOf(0), e, at-1, at, ring(at-1, at-250001, 1, 5), ring(at-1, at+99999, 0, 0))
	wantRings(t, zoneOf(0), e, at+1, at+2, ring(at+1, at-249999, 1, 5), ring(at+1, at+100001, 0, 0))
}

// Rings that would be ahead of the first time are left out, and those of the same alarm that would not are told.
func TestFirstTime(t *testing.T) {
	for _, from := range []int{1, 2, 50, 100000, 100001} {
		for _, ahead := range []int{0, 60} {
			which := from + ahead
			for by := -2; by <= 2; by++ {
				offset := by + 1 - from // it rings first at 1 and by
				if offset < -mostOffset {
					continue
				}
				e := once(which, 10, api.Alarm{Offset: offset, Repeat: 3, Between: 1})
				var want []api.Ring
				for turn := range 4 {
					if at := 1 + by + turn; at >= 1 {
						want = append(want, ring(at, which, 0, turn))
					}
				}
				hold(t, zoneOf(ahead), e, want)
			}
		}
	}
	wantRings(t, zoneOf(0), once(mostOffset+1, 0, api.Alarm{Offset: -mostOffset}), 1, 2, ring(1, mostOffset+1, 0, 0))
	wantRings(t, zoneOf(0), once(mostOffset, 0, api.Alarm{Offset: -mostOffset}), 1, mostSpan)
}

// Rings that would be behind the last time are left out; that at the last time is below no to.
func TestLastTime(t *testing.T) {
	for _, from := range []int{lastTime, lastTime - 1, lastTime - 50, lastTime - 100000, lastTime - 100001} {
		for _, ahead := range []int{0, -60} {
			which := from + ahead
			for by := -4; by <= 2; by++ {
				offset := lastTime + by - from // it rings first at the last time and by
				if offset > mostOffset {
					continue
				}
				e := once(which, 0, api.Alarm{Offset: offset, Repeat: 3, Between: 1}, api.Alarm{Offset: offset, End: true, Repeat: 3, Between: 1})
				var want []api.Ring
				for turn := range 4 {
					if at := lastTime + by + turn; at < lastTime {
						want = append(want, ring(at, which, 0, turn), ring(at, which, 1, turn))
					}
				}
				hold(t, zoneOf(ahead), e, want)
			}
		}
	}
	late := once(lastTime-mostLength, mostLength, api.Alarm{Offset: -1, End: true})
	wantRings(t, zoneOf(0), late, lastTime-1, lastTime, ring(lastTime-1, lastTime-mostLength, 0, 0))
	wantRings(t, zoneOf(0), late, lastTime-mostSpan, lastTime-1)
	// One whose From is just the last time may ring as early as it can.
	wantRings(t, zoneOf(-900), once(lastTime-900, 0, api.Alarm{Offset: -mostOffset}), lastTime-mostOffset, lastTime, ring(lastTime-mostOffset, lastTime-900, 0, 0))
}

// What is no Time does not ring, though it would ring at a time.
func TestNoTimeNoRing(t *testing.T) {
	alarms := []api.Alarm{{Offset: -mostOffset}, {Offset: -10}, {Offset: 2000}, {Offset: mostOffset, End: true}}
	hold(t, zoneOf(900), once(900, 0, alarms...), nil)
	hold(t, zoneOf(-900), once(lastTime-899, 0, alarms...), nil)
	hold(t, zoneOf(0), once(lastTime-29, 30, alarms...), nil)
	hold(t, zoneOf(0), once(lastTime-mostLength+1, mostLength, alarms...), nil)
	shift := timeOf(t, "2027-03-28 01:00")
	gap := repeated(t, timeOf(t, "2027-03-27 02:30"), 15, "daily count 3", api.Alarm{Offset: -60}, api.Alarm{Offset: 1, End: true})
	hold(t, summers(t), gap, listOf(t, "2027-03-27 00:30|0.0|2027-03-27 02:30,"+
		"2027-03-27 01:46|1.0|2027-03-27 02:30,"+
		"2027-03-28 23:30|0.0|2027-03-29 02:30,"+
		"2027-03-29 00:46|1.0|2027-03-29 02:30"))
	for _, minute := range []int{0, 1, 30, 59} {
		hold(t, summers(t), once(shift+60+minute, 15, alarms...), nil)
	}
	// What is moved into a gap does not ring, what is moved out of it does.
	moved := once(shift+90, 15, api.Alarm{Offset: -5})
	moved.Changes = []api.Change{{At: shift + 90, To: shift + 120}}
	hold(t, summers(t), moved, []api.Ring{ring(shift-5, shift+90, 0, 0)})
	moved = once(shift+120, 15, api.Alarm{Offset: -5})
	moved.Changes = []api.Change{{At: shift + 120, To: shift + 90}}
	hold(t, summers(t), moved, nil)
}

// An hour that is there twice: it rings by the first of both.
func TestTwice(t *testing.T) {
	e := once(timeOf(t, "2026-10-25 02:30"), 45, api.Alarm{Offset: -10}, api.Alarm{Offset: 10, End: true})
	hold(t, summers(t), e, listOf(t, "2026-10-25 00:20|0.0|2026-10-25 02:30,2026-10-25 01:25|1.0|2026-10-25 02:30"))
}

func TestLengthOfNoMinute(t *testing.T) {
	at := timeOf(t, "2026-11-16 09:30")
	hold(t, zoneOf(0), once(at, 0, api.Alarm{Offset: 3}, api.Alarm{Offset: 3, End: true}, api.Alarm{Offset: -3, End: true}, api.Alarm{End: true}),
		[]api.Ring{ring(at-3, at, 2, 0), ring(at, at, 3, 0), ring(at+3, at, 0, 0), ring(at+3, at, 1, 0)})
}

// Rings of several Times, alarms and turns at one minute stand by Order.
func TestSameMinute(t *testing.T) {
	at := timeOf(t, "2026-11-16 09:30")
	alarms := []api.Alarm{{Repeat: 2, Between: 1440}, {Offset: 1440}, {Offset: 1440}, {Offset: -1440, End: true, Repeat: 1, Between: 1440}}
	for _, text := range []string{"daily count 2", "daily until 2026-11-17"} {
		hold(t, zoneOf(0), repeated(t, at, 0, text, alarms...), []api.Ring{
			ring(at-1440, at, 3, 0),
			ring(at, at, 0, 0), ring(at, at, 3, 1), ring(at, at+1440, 3, 0),
			ring(at+1440, at, 0, 1), ring(at+1440, at, 1, 0), ring(at+1440, at, 2, 0), ring(at+1440, at+1440, 0, 0), ring(at+1440, at+1440, 3, 1),
			ring(at+2880, at, 0, 2), ring(at+2880, at+1440, 0, 1), ring(at+2880, at+1440, 1, 0), ring(at+2880, at+1440, 2, 0),
			ring(at+4320, at+1440, 0, 2),
		})
	}
	// Two Times that are at the same time, one of them moved: by Which, ahead of the alarm.
	for _, other := range []int{at - 70, at + 70} {
		e := once(at, 10, api.Alarm{Offset: -5}, api.Alarm{Offset: -5})
		e.More = []int{other}
		e.Changes = []api.Change{{At: other, To: at}}
		low, high := min(at, other), max(at, other)
		hold(t, zoneOf(0), e, []api.Ring{ring(at-5, low, 0, 0), ring(at-5, low, 1, 0), ring(at-5, high, 0, 0), ring(at-5, high, 1, 0)})
	}
}

// What was moved rings where it really is, however far that is from its Which, and not where it was.
func TestMovedFar(t *testing.T) {
	alarms := []api.Alarm{{Offset: -mostOffset}, {Offset: mostOffset, End: true, Repeat: mostRepeat, Between: mostBetween}}
	for _, text := range []string{"daily", "daily count 200", "daily until 1901-01-10", "weekly every 50", "yearly count 3", ""} {
		for _, to := range []int{5 * mostSpan, 66730170, lastTime - 400000} {
			e := once(600, mostLength, alarms...)
			if text != "" {
				e = repeated(t, 600, mostLength, text, alarms...)
			}
			e.Changes = []api.Change{{At: 600, To: to}, {At: 601, To: to + 1}}
			wantFarRings(t, e, 600, to)
		}
	}
	for _, c := range []struct{ rule, far string }{{"daily", "2199-01-01 10:00"}, {"weekly", "2198-12-28 10:00"}, {"monthly", "2199-01-01 10:00"}, {"yearly count 200", "2108-01-01 10:00"}, {"yearly every 50", "2159-01-01 10:00"}} {
		for _, to := range []int{mostOffset + 100, 600000} {
			e := repeated(t, timeOf(t, "1909-01-01 10:00"), mostLength, c.rule, alarms...)
			far := timeOf(t, c.far)
			e.Changes = []api.Change{{At: far - 1, To: to + 1}, {At: far, To: to}}
			wantFarRings(t, e, far, to)
		}
	}
}

// wantFarRings asks for rings of the alarms of TestMovedFar that are of one time alone.
func wantFarRings(t *testing.T, e api.Event, which, there int) {
	t.Helper()
	z, at := zoneOf(60), there-60
	ofIt := func(r api.Ring) bool { return r.Which == which }
	for _, want := range []api.Ring{ring(at-mostOffset, which, 0, 0), ring(at+200000, which, 1, 0), ring(at+210000, which, 1, 1), ring(at+250000, which, 1, 5)} {
		list, err := alarm.Rings(z, e, want.At, want.At+1)
		if err != nil || !slices.Contains(list, want) {
			t.Errorf("Rings(%+v, %d, %d): got %v, %v, want %v among them", e, want.At, want.At+1, list, err, want)
		}
		was := which - 60 + want.At - at
		if was < 1 || was >= lastTime {
			continue
		}
		if list, err := alarm.Rings(z, e, was, was+1); err != nil || slices.ContainsFunc(list, ofIt) {
			t.Errorf("Rings(%+v, %d, %d): got %v, %v, want none of %d", e, was, was+1, list, err, which)
		}
	}
}

// As many rings as are told, and one more, of Times that ring once, several times, and as often as they can.
func TestHowManyAreTold(t *testing.T) {
	start := timeOf(t, "2026-11-16 09:30")
	for _, alarms := range [][]api.Alarm{
		{{}},
		{{Offset: -10}, {End: true}},
		{{Repeat: 3, Between: 7}},
		{{Repeat: 4, Between: 7}},
		{{Repeat: 3, Between: 7}, {Offset: 3, Repeat: 3, Between: 7}},
		{{Repeat: 4, Between: 1}, {Repeat: 4, Between: 1}, {Repeat: 4, Between: 1}, {Repeat: 4, Between: 1}},
	} {
		e := repeated(t, start, 20, "daily", alarms...)
		all := sortedRings(spansOf(start, 1440, 410, 20), e)
		full, over := all[mostRings-1].At, all[mostRings].At
		wantNoRings(t, zoneOf(0), e, all[0].At, over+1, api.ErrFull)
		if over > full {
			wantRings(t, zoneOf(0), e, all[0].At, over, all[:mostRings]...)
			wantRings(t, zoneOf(0), e, all[0].At, full+1, all[:mostRings]...)
		}
		holdRings(t, zoneOf(0), e, all[0].At+1, over+1, all)
		holdRings(t, zoneOf(0), e, all[0].At, full, all)
		wantNoRings(t, zoneOf(0), e, start, start+mostSpan, api.ErrFull)
	}
}

// spansOf so many Times in a zone that is ahead of none.
func spansOf(first, by, many, length int) []api.Time {
	var list []api.Time
	for _, at := range rising(first, by, many) {
		list = append(list, api.Time{Which: at, From: at, To: at + length})
	}
	return list
}

// What rings in a stretch of all that is called off, moved away, in a gap or in Not is not counted.
func TestWhatIsNotCounted(t *testing.T) {
	start := timeOf(t, "2026-11-16 09:30")
	change := func(change func(e *api.Event)) api.Event {
		e := repeated(t, start, 20, "daily", api.Alarm{Offset: 5})
		change(&e)
		return e
	}
	last := start + 400*1440 // the 401st
	all := sortedRings(spansOf(start, 1440, 400, 20), change(func(*api.Event) {}))
	off := change(func(e *api.Event) { e.Changes = []api.Change{{At: last}} })
	away := change(func(e *api.Event) { e.Changes = []api.Change{{At: last, To: last + mostSpan}} })
	not := change(func(e *api.Event) { e.Not = []int{last} })
	for _, e := range []api.Event{off, away, not} {
		wantRings(t, zoneOf(0), e, start, last+6, all...)
		wantRings(t, zoneOf(0), e, start, last+1440, all...)
		wantNoRings(t, zoneOf(0), e, start, last+1446, api.ErrFull)
	}
	whole := change(func(*api.Event) {})
	wantRings(t, zoneOf(0, last, 1), whole, start, last+6, all...) // one minute is not there: that of the 401st
	wantNoRings(t, zoneOf(0, last+1, 1), whole, start, last+6, api.ErrFull)
	into := change(func(e *api.Event) { e.Changes = []api.Change{{At: start + 900*1440, To: start + 7}} })
	wantNoRings(t, zoneOf(0), into, start, last, api.ErrFull)
	wantRings(t, zoneOf(0), into, start, last-1440, append([]api.Ring{all[0], ring(start+12, start+900*1440, 0, 0)}, all[1:399]...)...)
}

// More Times than chapter 9's Between tells are in the reach of a stretch, and few rings in it.
func TestManyTimesFewRings(t *testing.T) {
	start := timeOf(t, "2026-11-16 09:30")
	alarms := []api.Alarm{{Offset: -mostOffset, Repeat: mostRepeat, Between: 1}, {Repeat: mostRepeat, Between: 1}, {Repeat: mostRepeat, Between: 1}, {Offset: mostOffset, End: true, Repeat: mostRepeat, Between: mostBetween}}
	e := repeated(t, start, mostLength, "daily", alarms...)
	e.More = rising(start+1440*300+1, 10, 100)
	list := append(spansOf(start, 1440, 900, mostLength), spansOf(start+1440*300+1, 10, 100, mostLength)...)
	all := sortedRings(list, e)
	for _, from := range []int{start, start + 300*1440 - 60, start + 300*1440 + 7, start + 400*1440, start + 420*1440} {
		for _, long := range []int{0, 1, 9, 60, 1440, 5 * 1440, 10 * 1440, 16 * 1440, 17 * 1440, 20 * 1440} {
			holdRings(t, zoneOf(0), e, from, from+long, all)
		}
	}
	// As many as may be are moved to one time, and ring ahead of it alone.
	crowd := repeated(t, start, 5, "daily", api.Alarm{Offset: -30}, api.Alarm{Offset: -20, Repeat: 2, Between: 5})
	for _, at := range rising(start, 1440, 100) {
		crowd.Changes = append(crowd.Changes, api.Change{At: at, To: start})
	}
	var want []api.Ring
	for _, c := range []struct{ behind, alarm, turn int }{{-30, 0, 0}, {-20, 1, 0}, {-15, 1, 1}, {-10, 1, 2}} {
		for _, at := range rising(start, 1440, 100) {
			want = append(want, ring(start+c.behind, at, c.alarm, c.turn))
		}
	}
	wantRings(t, zoneOf(0), crowd, start-30, start+1440, want...)
	wantRings(t, zoneOf(0), crowd, start-29, start-19, want[100:200]...)
	wantNoRings(t, zoneOf(0), crowd, start-30, start+100*1440-29, api.ErrFull)
	wantRings(t, zoneOf(0), crowd, start-30, start+100*1440-30, want...)
}
