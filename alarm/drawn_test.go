package alarm_test

import (
	"math/rand/v2"
	"slices"
	"testing"

	"chimework/api"
	"chimework/event"
	"chimework/plain"
	"chimework/zone"
)

// So many days from Start on a rule without an end is looked at, at most.
const horizon = 1500

// allLocal lists all times of an event, by chapter 8 alone; it is cut where there would be too many for one call.
func allLocal(t *testing.T, e api.Event, from, to int) []int {
	t.Helper()
	var list []int
	for from <= to {
		end := min(from+mostSpan, to)
		some, err := event.Local(e, from, end)
		for plain.Told(err) == api.ErrFull {
			end = from + (end-from)/2
			some, err = event.Local(e, from, end)
		}
		if err != nil {
			t.Fatalf("Local(%+v, %d, %d): %v", e, from, end, err)
		}
		list = append(list, some...)
		from = end + 1
	}
	return list
}

// allTimes says T1, word by word, by the chapters 7 and 8 alone.
func allTimes(t *testing.T, z api.Zone, e api.Event, local []int) []api.Time {
	t.Helper()
	var list []api.Time
	for _, which := range local {
		there, off, err := event.Moved(e, which)
		if err != nil {
			t.Fatalf("Moved(%+v, %d): %v", e, which, err)
		}
		if off {
			continue
		}
		from, err := zone.World(z, there)
		if err == nil && from+e.Length <= lastTime {
			list = append(list, api.Time{Which: which, From: from, To: from + e.Length})
		}
	}
	return list
}

// sortedRings says A1, word by word, of all Times.
func sortedRings(list []api.Time, e api.Event) []api.Ring {
	var all []api.Ring
	for _, each := range list {
		for number, a := range e.Alarms {
			at := each.From
			if a.End {
				at = each.To
			}
			at += a.Offset
			for turn := 0; turn <= a.Repeat; turn++ {
				if at >= 1 && at <= lastTime {
					all = append(all, api.Ring{At: at, Name: e.Name, Which: each.Which, Alarm: number, Turn: turn})
				}
				at += a.Between
			}
		}
	}
	// Of one event all names are the same.
	slices.SortFunc(all, func(a, b api.Ring) int {
		return slices.Compare([]int{a.At, a.Which, a.Alarm, a.Turn}, []int{b.At, b.Which, b.Alarm, b.Turn})
	})
	return all
}

var rulesDrawn = []string{
	"daily", "daily every 2", "daily every 7", "daily count 10", "daily count 200", "daily on mo,fr", "daily every 3 count 50 on mo,tu,we",
	"weekly", "weekly every 2 on mo,we,su", "weekly count 7 on tu", "weekly on mo,tu,we,th,fr,sa,su pick -1,1",
	"monthly", "monthly days -1,1,15", "monthly every 2 on 1mo,-1fr", "monthly count 5 days 31",
	"yearly", "yearly every 2 months 1,2,3,4,5,6,7,8,9,10,11,12 on mo", "yearly count 3 months 11 on 4th",
}

func pickOne[T any](random *rand.Rand, list ...T) T { return list[random.IntN(len(list))] }

// drawTime near one of some, or one of them.
func drawTime(random *rand.Rand, times []int) int {
	t := pickOne(random, times...)
	switch random.IntN(5) {
	case 0:
		t += random.IntN(3) - 1
	case 1:
		t += random.IntN(1801) - 900
	case 2:
		t += random.IntN(200001) - 100000
	}
	return min(max(t, 1), lastTime)
}

func drawTimes(random *rand.Rand, times []int, many int) []int {
	var list []int
	for range random.IntN(many + 1) {
		list = append(list, drawTime(random, times))
	}
	slices.Sort(list)
	return slices.Compact(list)
}

// drawAlarm, often one that is as far as it can be.
func drawAlarm(random *rand.Rand) api.Alarm {
	a := api.Alarm{
		Offset: pickOne(random, 0, -10, 30, -mostOffset, mostOffset, random.IntN(2881)-1440, random.IntN(2*mostOffset+1)-mostOffset),
		End:    random.IntN(2) == 0,
		Repeat: pickOne(random, 0, 0, 1, mostRepeat, random.IntN(mostRepeat+1)),
	}
	if a.Repeat > 0 {
		a.Between = pickOne(random, 1, 5, 1440, mostBetween, 1+random.IntN(mostBetween))
	}
	return a
}

// drawEvent that has an end, with lists of times that may meet its own.
func drawEvent(t *testing.T, random *rand.Rand) api.Event {
	start := pickOne(random, 1, 1439, 66730170, 1+random.IntN(lastTime), 1+random.IntN(300000), lastTime-random.IntN(300000), lastTime)
	length := pickOne(random, 0, 1, 90, random.IntN(3000), mostLength)
	e := once(start, length)
	if random.IntN(6) > 0 {
		e = repeated(t, start, length, pickOne(random, rulesDrawn...))
		if e.Rule.Count == 0 {
			e.Rule.Until = min(start/1440+1+random.IntN(horizon), lastTime/1440+1)
		}
	}
	e.Name = pickOne(random, "a", "meet", "zzzzzzzz")
	near := []int{start, start, min(start+1440, lastTime), min(start+10*1440, lastTime), min(start+500*1440, lastTime)}
	e.More = drawTimes(random, near, pickOne(random, 0, 3, 100))
	near = append(near, e.More...)
	e.Not = drawTimes(random, near, pickOne(random, 0, 3, 60))
	for _, at := range drawTimes(random, near, pickOne(random, 0, 3, 100)) {
		c := api.Change{At: at}
		if random.IntN(4) > 0 {
			c.To = drawTime(random, append(near, 1+random.IntN(lastTime)))
		}
		e.Changes = append(e.Changes, c)
	}
	for range random.IntN(5) {
		e.Alarms = append(e.Alarms, drawAlarm(random))
	}
	return e
}

// drawZone whose shifts lie near some times.
func drawZone(random *rand.Rand, near []int) api.Zone {
	ahead := func() int { return pickOne(random, -900, 900, 0, random.IntN(1801)-900, random.IntN(1801)-900) }
	z := api.Zone{Ahead: ahead()}
	at := drawTime(random, near)
	for range random.IntN(21) {
		if at > lastTime {
			break
		}
		z.Shifts = append(z.Shifts, api.Shift{At: at, Ahead: ahead()})
		at += 1440 + random.IntN(2)*random.IntN(30000)
	}
	return z
}

// endsOf an event: it has no times ahead of the one and behind the other.
func endsOf(e api.Event) (int, int) {
	last := e.Start
	switch {
	case e.Rule.Until != 0:
		last = min(e.Rule.Until*1440, lastTime)
	case e.Repeats:
		last = lastTime
	}
	all := append([]int{e.Start, last}, e.More...)
	return slices.Min(all), slices.Max(all)
}

// Events and zones that are drawn, always the same, against their rings as they are told one by one.
func TestDrawn(t *testing.T) {
	random := rand.New(rand.NewPCG(10, 1))
	told, full := 0, 0
	for range 400 {
		e := drawEvent(t, random)
		first, last := endsOf(e)
		local := allLocal(t, e, first, last)
		z := drawZone(random, append(local, e.Start))
		all := sortedRings(allTimes(t, z, e, local), e)
		told += len(all)
		full += holdDrawn(t, random, z, e, all)
	}
	// The draw is of no use if little comes of it.
	if told < 10000 || full < 20 {
		t.Errorf("%d rings and %d stretches that are full were drawn", told, full)
	}
}

// holdDrawn asks near the rings of an event, and counts the stretches that are too full.
func holdDrawn(t *testing.T, random *rand.Rand, z api.Zone, e api.Event, all []api.Ring) int {
	t.Helper()
	near := []int{1, lastTime, e.Start}
	for range min(len(all), 40) {
		near = append(near, all[random.IntN(len(all))].At)
	}
	full := 0
	for _, n := range near {
		from := min(max(n+random.IntN(3)-1, 1), lastTime)
		long := pickOne(random, 0, 1, 60, 1440, random.IntN(30000), random.IntN(mostSpan), mostSpan)
		to := min(from+long, lastTime)
		holdRings(t, z, e, from, to, all)
		holdRings(t, z, e, max(1, to-mostSpan), to, all)
		holdRings(t, z, e, max(1, to-long/3), to, all)
		first, _ := slices.BinarySearchFunc(all, from, func(r api.Ring, at int) int { return r.At - at })
		end, _ := slices.BinarySearchFunc(all, to, func(r api.Ring, at int) int { return r.At - at })
		if end-first > mostRings {
			full++
		}
	}
	return full
}
