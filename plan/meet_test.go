package plan_test

import (
	"math"
	"slices"
	"testing"

	"chimework/api"
)

// moved tells an event whose zone's clocks go so many minutes ahead: it is at the same time of the whole world.
func moved(e api.Event, by int) api.Event {
	all := func(list []int) []int {
		var moved []int
		for _, n := range list {
			moved = append(moved, n+by)
		}
		return moved
	}
	e.Start, e.More, e.Not = e.Start+by, all(e.More), all(e.Not)
	e.Changes = slices.Clone(e.Changes)
	for i, c := range e.Changes {
		e.Changes[i].At += by
		if c.To != 0 {
			e.Changes[i].To += by
		}
	}
	return e
}

// slotOf goes over the minutes of a stretch, one by one, and tells the first from which on so many are free, and whether there is one.
func slotOf(from, to, length int, isFree func(minute int) bool) (int, bool) {
	many := 0
	for m := from; m < to; m++ {
		if !isFree(m) {
			many = 0
			continue
		}
		many++
		if many == length {
			return m - length + 1, true
		}
	}
	return 0, false
}

// wantMeetAs asks Meet for what the minutes say.
func wantMeetAs(t *testing.T, zones []api.Zone, l [][]api.Event, from, to, length int, isFree func(minute int) bool) {
	t.Helper()
	if want, is := slotOf(from, to, length, isFree); is {
		wantMeet(t, zones, l, from, to, length, want)
	} else {
		wantNoMeet(t, zones, l, from, to, length, api.ErrNone)
	}
}

// All events of a picture in one list, each in a list of its own in a zone of its own, and that with lists between that have none.
func TestMeetOfPictures(t *testing.T) {
	aheads := []int{0, 60, -300, 900, -900, 345}
	for _, p := range pictures(t) {
		var zones, more []api.Zone
		var apart, between [][]api.Event
		for i, e := range p.events {
			ahead := aheads[i%len(aheads)]
			zones, apart = append(zones, zoneOf(ahead)), append(apart, []api.Event{moved(e, ahead)})
			more, between = append(more, zoneOf(ahead), zoneOf(7)), append(between, apart[i], nil)
		}
		isFree := func(m int) bool {
			return !slices.ContainsFunc(p.taken, func(b api.Busy) bool { return m >= b.From && m < b.To })
		}
		for _, long := range []int{1, 10, 11, 569, 570, 571, 600, 660, 661, 1000, 5000, 10 * dayLong} {
			for _, length := range []int{1, 10, 30, 90, 130, 340, 570, 571, 1000, 1350, 5000} {
				wantMeetAs(t, []api.Zone{zoneOf(0)}, [][]api.Event{p.events}, begin, begin+long, length, isFree)
				wantMeetAs(t, zones, apart, begin, begin+long, length, isFree)
				wantMeetAs(t, more, between, begin, begin+long, length, isFree)
			}
		}
	}
}

func TestMeetOfNoList(t *testing.T) {
	for _, zones := range [][]api.Zone{nil, {}} {
		for _, l := range [][][]api.Event{nil, {}} {
			wantMeet(t, zones, l, begin, begin+100, 1, begin)
			wantMeet(t, zones, l, begin, begin+100, 100, begin)
			wantNoMeet(t, zones, l, begin, begin+100, 101, api.ErrNone)
			wantMeet(t, zones, l, 1, lastTime, longest, 1)
			wantMeet(t, zones, l, lastTime-1, lastTime, 1, lastTime-1)
			wantNoMeet(t, zones, l, lastTime, lastTime, 1, api.ErrNone)
		}
	}
	// Lists without an event take nothing, and their zones are not looked at.
	for _, list := range [][]api.Event{nil, {}} {
		wantMeet(t, []api.Zone{zoneOf(60), zoneOf(901)}, [][]api.Event{list, list}, begin, begin+100, 100, begin)
	}
}

// Three in zones of their own: free for all at the stretch's begin, between, and at its end.
func TestMeetAtBeginBetweenAndEnd(t *testing.T) {
	zones := []api.Zone{zoneOf(60), zoneOf(-300), zoneOf(120, begin-5000, 0)}
	meet := func(a, b, c []api.Event) [][]api.Event {
		lists := [][]api.Event{a, b, c}
		for i, ahead := range []int{60, -300, 0} {
			for k := range lists[i] {
				lists[i][k] = moved(lists[i][k], ahead)
			}
		}
		return lists
	}
	l := meet(each(10, 10), each(20, 30), each(95, 10))
	for _, c := range [][2]int{{1, 0}, {9, 0}, {10, 0}, {11, 50}, {44, 50}, {45, 50}} {
		wantMeet(t, zones, l, begin, begin+100, c[0], begin+c[1])
	}
	wantNoMeet(t, zones, l, begin, begin+100, 46, api.ErrNone)
	wantMeet(t, zones, l, begin, begin+150, 45, begin+50)
	wantMeet(t, zones, l, begin, begin+151, 46, begin+105)
	wantNoMeet(t, zones, l, begin, begin+150, 46, api.ErrNone)

	l = meet(each(0, 20), each(20, 30), each(50, 40))
	wantMeet(t, zones, l, begin, begin+100, 1, begin+90)
	wantMeet(t, zones, l, begin, begin+100, 10, begin+90)
	wantNoMeet(t, zones, l, begin, begin+100, 11, api.ErrNone)
	wantMeet(t, zones, l, begin, begin+101, 11, begin+90)
	wantMeet(t, zones, l, begin, begin+91, 1, begin+90)
	wantNoMeet(t, zones, l, begin, begin+90, 1, api.ErrNone)

	// Each alone is free somewhere, but never all at once.
	l = meet(each(0, 40), each(30, 40), each(60, 40))
	wantNoMeet(t, zones, l, begin, begin+100, 1, api.ErrNone)
	wantMeet(t, zones[:2], l[:2], begin, begin+100, 30, begin+70)
	wantMeet(t, zones[1:], l[1:], begin, begin+100, 30, begin)
	// What takes no minute hinders nobody.
	l = meet(each(10, 0), each(50, 0, 100, 0), nil)
	wantMeet(t, zones, l, begin, begin+100, 100, begin)
}

// In its zone each event is at the same time there: so they meet, or not, by the zones alone.
func TestMeetInEachZone(t *testing.T) {
	same := each(600, 60)
	wantMeet(t, []api.Zone{zoneOf(0), zoneOf(0)}, [][]api.Event{same, same}, begin+600, begin+720, 60, begin+660)
	wantMeet(t, []api.Zone{zoneOf(0), zoneOf(-60)}, [][]api.Event{same, same}, begin+600, begin+780, 60, begin+720)
	wantMeet(t, []api.Zone{zoneOf(-60), zoneOf(0)}, [][]api.Event{same, same}, begin+600, begin+780, 60, begin+720)
	wantMeet(t, []api.Zone{zoneOf(60), zoneOf(0)}, [][]api.Event{same, same}, begin+540, begin+780, 60, begin+660)
	wantMeet(t, []api.Zone{zoneOf(60), zoneOf(-60)}, [][]api.Event{same, same}, begin+540, begin+780, 60, begin+600)
	// From a shift on it is another one.
	shifted := zoneOf(0, begin-3000, 60)
	wantMeet(t, []api.Zone{shifted, zoneOf(0)}, [][]api.Event{same, same}, begin+540, begin+780, 60, begin+660)
}

func TestMeetLengths(t *testing.T) {
	zones, l := []api.Zone{zoneOf(0), zoneOf(60)}, [][]api.Event{each(0, 100), nil}
	wantNoMeet(t, zones, l, begin, begin+200, 0, api.ErrRange)
	wantMeet(t, zones, l, begin, begin+200, 1, begin+100)
	wantMeet(t, zones, l, begin, begin+200, 100, begin+100)
	wantNoMeet(t, zones, l, begin, begin+200, 101, api.ErrNone)
	wantNoMeet(t, zones, l, begin, begin+longest, longest, api.ErrNone)
	wantMeet(t, zones, l, begin, begin+longest, longest-100, begin+100)
	wantMeet(t, zones, l, begin+1, begin+longest+1, longest, begin+1)
	wantMeet(t, zones[1:], l[1:], begin, begin+longest, longest, begin)
	wantMeet(t, zones[1:], l[1:], begin, begin+longest+5, longest, begin)
	for _, length := range []int{math.MinInt, math.MinInt32, -longest, -1, 0, longest + 1, longest + 2, math.MaxInt32, math.MaxInt} {
		wantNoMeet(t, zones, l, begin, begin+longest, length, api.ErrRange)
		wantNoMeet(t, zones, l, begin, begin, length, api.ErrRange)
		wantNoMeet(t, zones[1:], l[1:], 1, lastTime, length, api.ErrRange)
		wantNoMeet(t, nil, nil, 1, lastTime, length, api.ErrRange)
	}
}

// Each list may have as many Times as may be: together they may be more.
func TestMeetOfManyTimes(t *testing.T) {
	var zones []api.Zone
	var l [][]api.Event
	for i := range mostEvents {
		zones = append(zones, zoneOf(i))
		// Each day, one behind the other, a minute between.
		l = append(l, []api.Event{moved(repeated(t, begin+10*i, 9, "daily count 200"), i)})
	}
	from, to := begin, begin+mostTimes*dayLong
	wantMeet(t, zones, l, from, to, 1, begin+9)
	wantMeet(t, zones, l, from, to, 2, begin+199)
	wantMeet(t, zones, l, from, to, dayLong-199, begin+199)
	wantNoMeet(t, zones, l, from, to, dayLong-198, api.ErrNone)
	wantMeet(t, zones, l, from, to+1000, 2000, begin+(mostTimes-1)*dayLong+199)
	for many := 1; many <= mostEvents; many++ {
		wantMeet(t, zones[:many], l[:many], from, to, 2, begin+10*many-1)
	}
	// Those of no minute are as many, and hinder nobody.
	for i := range l {
		l[i][0].Length = 0
	}
	wantMeet(t, zones, l, from, to, mostTimes*dayLong, begin)
	// Of one list they may not be more.
	l[7] = append(l[7], once(begin+7, 0))
	wantNoMeet(t, zones, l, from, to, 1, api.ErrFull)
	l[7][1].Start = begin - 1
	wantMeet(t, zones, l, from, to, 1, begin)
}

func TestMeetOfManyLists(t *testing.T) {
	zones, l := make([]api.Zone, mostEvents+2), make([][]api.Event, mostEvents+2)
	for i := range l {
		l[i] = each(10*i, 10)
	}
	for many := range mostEvents + 3 {
		for zone := range mostEvents + 3 {
			if many != zone {
				wantNoMeet(t, zones[:zone], l[:many], begin, begin+dayLong, 10, api.ErrShape)
				continue
			}
			if many > mostEvents {
				wantNoMeet(t, zones[:zone], l[:many], begin, begin+dayLong, 10, api.ErrFull)
				continue
			}
			wantMeet(t, zones[:zone], l[:many], begin, begin+dayLong, 10, begin+10*many)
		}
	}
	// As many as may be, each with as many events as may be.
	for i := range l {
		l[i] = nil
		for k := range mostEvents {
			l[i] = append(l[i], once(begin+10*i+200*k, 10))
		}
	}
	wantMeet(t, zones[:mostEvents], l[:mostEvents], begin, begin+longest, 1, begin+200*mostEvents)
	l[3] = append(l[3], once(begin+longest, 1))
	wantNoMeet(t, zones[:mostEvents], l[:mostEvents], begin, begin+longest, 1, api.ErrFull)
}
