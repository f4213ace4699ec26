package plan_test

import (
	"math"
	"testing"

	"chimework/api"
)

// noTimes are none, up to the ends of int.
var noTimes = []int{
	math.MinInt, math.MinInt + 1, math.MinInt + longest, math.MinInt / 2, math.MinInt32, -lastTime, -longest, -900, -1, 0,
	lastTime + 1, lastTime + 900, lastTime + longest, math.MaxInt32, math.MaxInt / 2, math.MaxInt - longest, math.MaxInt - 1, math.MaxInt,
}

// some makes so many events that are once, a minute long, by so many minutes behind one another.
func some(many, by int) []api.Event {
	var list []api.Event
	for i := range many {
		list = append(list, once(begin+i*by, 1))
	}
	return list
}

// What begins in the stretch is told whole; what does not is not told, though it reaches into it.
func TestEndsOfAStretch(t *testing.T) {
	l := each(-10, 100, 0, 5, 99, 50, 100, 7)
	z := zoneOf(0)
	wantBusy(t, z, l, begin, begin+100, at(0, 5, 99, 149))
	wantClashes(t, z, l, begin, begin+100, nil)
	wantMeet(t, []api.Zone{z}, [][]api.Event{l}, begin, begin+100, 94, begin+5)
	wantNoMeet(t, []api.Zone{z}, [][]api.Event{l}, begin, begin+100, 95, api.ErrNone)

	wantBusy(t, z, l, begin-1, begin+101, at(0, 5, 99, 149))
	wantClashes(t, z, l, begin-1, begin+101, pairs(2, 3))
	wantMeet(t, []api.Zone{z}, [][]api.Event{l}, begin-1, begin+101, 1, begin-1)

	wantBusy(t, z, l, begin-10, begin+99, at(-10, 90))
	wantClashes(t, z, l, begin-10, begin+99, pairs(0, 1))
	wantMeet(t, []api.Zone{z}, [][]api.Event{l}, begin-10, begin+99, 9, begin+90)
	wantNoMeet(t, []api.Zone{z}, [][]api.Event{l}, begin-10, begin+99, 10, api.ErrNone)

	wantBusy(t, z, l, begin+1, begin+99, nil)
	wantClashes(t, z, l, begin+1, begin+99, nil)
	wantMeet(t, []api.Zone{z}, [][]api.Event{l}, begin+1, begin+99, 98, begin+1)

	// A stretch of no minute.
	for _, from := range []int{begin - 10, begin - 1, begin, begin + 1, begin + 99, begin + 100} {
		wantBusy(t, z, l, from, from, nil)
		wantClashes(t, z, l, from, from, nil)
		wantNoMeet(t, []api.Zone{z}, [][]api.Event{l}, from, from, 1, api.ErrNone)
	}
	// A stretch of one.
	wantBusy(t, z, l, begin, begin+1, at(0, 5))
	wantNoMeet(t, []api.Zone{z}, [][]api.Event{l}, begin, begin+1, 1, api.ErrNone)
	wantMeet(t, []api.Zone{z}, [][]api.Event{l}, begin+1, begin+2, 1, begin+1)
}

// The first and the last times; what would end behind the last one is left out.
func TestEndsOfTheTimes(t *testing.T) {
	first := []api.Event{once(1, 10), once(5, 1), once(10, 1)}
	wantBusy(t, zoneOf(0), first, 1, longest+1, []api.Busy{{From: 1, To: 11}})
	wantClashes(t, zoneOf(0), first, 1, longest+1, pairs(0, 1, 0, 2))
	wantMeet(t, []api.Zone{zoneOf(0)}, [][]api.Event{first}, 1, 20, 9, 11)
	// Ahead of the whole world's first time nothing is.
	wantBusy(t, zoneOf(5), first, 1, longest+1, []api.Busy{{From: 5, To: 6}})
	wantClashes(t, zoneOf(5), first, 1, longest+1, nil)
	wantBusy(t, zoneOf(-5), first, 1, longest+1, []api.Busy{{From: 6, To: 16}})

	last := []api.Event{once(lastTime-10, 10), once(lastTime-10, 11), once(lastTime-1, 1), once(lastTime, 0), repeated(t, lastTime-1440, 1440, "daily")}
	from := lastTime - longest
	wantBusy(t, zoneOf(0), last, from, lastTime, []api.Busy{{From: lastTime - 1440, To: lastTime}})
	wantClashes(t, zoneOf(0), last, from, lastTime, pairs(0, 2, 0, 4, 2, 4))
	wantBusy(t, zoneOf(0), last[:4], from, lastTime, []api.Busy{{From: lastTime - 10, To: lastTime}})
	wantNoMeet(t, []api.Zone{zoneOf(0)}, [][]api.Event{last}, lastTime-1440, lastTime, 1, api.ErrNone)
	wantMeet(t, []api.Zone{zoneOf(0)}, [][]api.Event{last[:4]}, lastTime-20, lastTime, 10, lastTime-20)
	wantBusy(t, zoneOf(-10), last[:3], from, lastTime, nil)
	wantBusy(t, zoneOf(-9), last[:1], from, lastTime, nil)
	wantBusy(t, zoneOf(1), last[:2], from, lastTime, []api.Busy{{From: lastTime - 11, To: lastTime}})
	wantClashes(t, zoneOf(1), last[:2], from, lastTime, pairs(0, 1))
}

func TestManyEvents(t *testing.T) {
	l := some(mostEvents+2, 1)
	for many := range mostEvents + 1 {
		wantLoadOf(t, l[:many], 2026, 11, map[int]int{16: many})
		if many == 0 {
			continue
		}
		wantBusy(t, zoneOf(0), l[:many], begin, begin+100, at(0, many))
		wantClashes(t, zoneOf(0), l[:many], begin, begin+100, nil)
	}
	for many := mostEvents + 1; many <= len(l); many++ {
		wantRefused(t, zoneOf(0), l[:many], begin, begin+100, api.ErrFull)
		wantNoLoad(t, l[:many], 2026, 11, api.ErrFull)
		// Not one of them need be in the stretch, or the month.
		wantRefused(t, zoneOf(0), l[:many], begin+1000, begin+1100, api.ErrFull)
		wantNoLoad(t, l[:many], 2020, 1, api.ErrFull)
	}
	// All pairs of as many as may be.
	var all [][2]int
	for i := range mostEvents {
		for k := i + 1; k < mostEvents; k++ {
			all = append(all, [2]int{i, k})
		}
	}
	wantClashes(t, zoneOf(0), append(some(mostEvents-1, 0), each(0, 7)...), begin, begin+100, all)
}

// As many Times as may be, of one event and of several together, and one more.
func TestManyTimes(t *testing.T) {
	to := begin + 400*dayLong
	for _, length := range []int{0, 1, 1440} {
		taken := func(many int) []api.Busy {
			switch length {
			case 0:
				return nil
			case 1440:
				return at(0, many*dayLong)
			}
			var list []api.Busy
			for i := range many {
				list = append(list, at(i*dayLong, i*dayLong+1)...)
			}
			return list
		}
		full := repeated(t, begin, length, "daily count 200")
		wantBusy(t, zoneOf(0), []api.Event{full}, begin, to, taken(mostTimes))
		wantClashes(t, zoneOf(0), []api.Event{full}, begin, to, nil)
		more := full
		more.More = []int{begin + 201*dayLong}
		wantRefused(t, zoneOf(0), []api.Event{more}, begin, to, api.ErrFull)
		wantBusy(t, zoneOf(0), []api.Event{more}, begin, begin+201*dayLong, taken(mostTimes))
		wantClashes(t, zoneOf(0), []api.Event{more}, begin+1, to, nil)

		// Those at the same time, and those of no minute, count as others do.
		a, b := repeated(t, begin, length, "daily count 100"), repeated(t, begin+100*dayLong, length, "daily count 100")
		wantBusy(t, zoneOf(0), []api.Event{a, b}, begin, to, taken(mostTimes))
		wantBusy(t, zoneOf(0), []api.Event{a, a}, begin, to, taken(100))
		for _, one := range []api.Event{once(begin, length), once(begin+5, 0), once(to-1, 1)} {
			wantRefused(t, zoneOf(0), []api.Event{a, b, one}, begin, to, api.ErrFull)
			wantRefused(t, zoneOf(0), []api.Event{a, one, a}, begin, to, api.ErrFull)
			wantRefused(t, zoneOf(0), []api.Event{one, full}, begin, to, api.ErrFull)
			wantRefused(t, zoneOf(0), []api.Event{full, one}, begin, to, api.ErrFull)
		}
		// What is not in the stretch does not count.
		for _, one := range []api.Event{once(begin-1, length), once(to, length)} {
			wantBusy(t, zoneOf(0), []api.Event{a, b, one}, begin, to, taken(mostTimes))
			wantClashes(t, zoneOf(0), []api.Event{a, b, one}, begin, to, nil)
		}
	}
	// As many events as may be, with as many Times as may be.
	var l []api.Event
	var want []api.Busy
	for i := range mostEvents {
		l = append(l, repeated(t, begin+i*10*dayLong, 5, "daily count 10"))
		for k := range 10 {
			want = append(want, at((10*i+k)*dayLong, (10*i+k)*dayLong+5)...)
		}
	}
	wantBusy(t, zoneOf(0), l, begin, to, want)
	l[7].Rule.Count = 11
	wantClashes(t, zoneOf(0), l[:mostEvents-1], begin, to, pairs(7, 8))
	wantRefused(t, zoneOf(0), l, begin, to, api.ErrFull)
}

// With an event a stretch is as Between has it; without one only Slot asks.
func TestWrongStretches(t *testing.T) {
	fine := each(10, 10)
	none := [][]api.Event{nil, {}}
	asked := func(from, to int, slot api.Errno) {
		t.Helper()
		wantRefused(t, zoneOf(0), fine, from, to, api.ErrRange)
		for _, list := range none {
			wantBusy(t, zoneOf(0), list, from, to, nil)
			wantClashes(t, zoneOf(0), list, from, to, nil)
			for _, length := range []int{1, 0, longest + 1} {
				wantNoMeet(t, []api.Zone{zoneOf(0)}, [][]api.Event{list}, from, to, length, slot)
				wantNoMeet(t, nil, nil, from, to, length, slot)
			}
		}
	}
	for _, n := range noTimes {
		for _, other := range append([]int{1, begin, lastTime}, noTimes...) {
			asked(n, other, api.ErrRange)
			asked(other, n, api.ErrRange)
		}
	}
	asked(begin+1, begin, api.ErrShape)
	asked(lastTime, 1, api.ErrShape)
	asked(2, 1, api.ErrShape)
	// Only Between bounds how long it may be.
	for _, end := range []int{begin + longest + 1, lastTime} {
		wantRefused(t, zoneOf(0), fine, begin, end, api.ErrRange)
		wantBusy(t, zoneOf(0), nil, begin, end, nil)
		wantMeet(t, nil, nil, begin, end, longest, begin)
		wantMeet(t, []api.Zone{zoneOf(0)}, none[:1], begin, end, longest, begin)
	}
	wantBusy(t, zoneOf(0), fine, begin, begin+longest, at(10, 20))
	wantMeet(t, []api.Zone{zoneOf(0)}, [][]api.Event{fine}, begin, begin+longest, longest-20, begin+20)
}

// A zone that is none is no matter where there is no event.
func TestNoEventInAWrongZone(t *testing.T) {
	for _, zones := range wrongZones() {
		for _, z := range zones {
			for _, l := range [][]api.Event{nil, {}} {
				wantBusy(t, z, l, begin, begin+100, nil)
				wantClashes(t, z, l, begin, begin+100, nil)
				wantMeet(t, []api.Zone{z}, [][]api.Event{l}, begin, begin+100, 100, begin)
			}
		}
	}
}
