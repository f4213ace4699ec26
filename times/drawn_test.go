package times_test

import (
	"cmp"
	"math/rand/v2"
	"slices"
	"testing"

	"chimework/api"
	"chimework/event"
	"chimework/period"
	"chimework/plain"
	"chimework/zone"
)

// So many days from Start on the times are told one by one.
const horizon = 1600

// allTimes says chapter 8's TIMES, word by word, up to the end of a day.
func allTimes(e api.Event, end int) []int {
	list := slices.Clone(e.More)
	if !e.Repeats {
		list = append(list, e.Start)
	}
	for i, n := range theDays(e, end) {
		if (e.Rule.Count == 0 || i < e.Rule.Count) && (e.Rule.Until == 0 || n <= e.Rule.Until) {
			list = append(list, (n-1)*1440+e.Start%1440)
		}
	}
	slices.Sort(list)
	return slices.DeleteFunc(slices.Compact(list), func(t int) bool { return slices.Contains(e.Not, t) })
}

// theDays of a rule, without its bounds.
func theDays(e api.Event, end int) []int {
	if !e.Repeats {
		return nil
	}
	start := e.Start/1440 + 1
	list := []int{start}
	for k := 0; ; k++ {
		begin, err := period.Begin(e.Rule, start, k)
		if err != nil || begin > end {
			return list
		}
		days, _ := period.Days(e.Rule, start, k)
		for _, n := range days {
			if n > start {
				list = append(list, n)
			}
		}
	}
}

// aheadOf says Z1, word by word: the last of the shifts that is there at a time.
func aheadOf(z api.Zone, at int) int {
	for _, s := range slices.Backward(z.Shifts) {
		if s.At <= at {
			return s.Ahead
		}
	}
	return z.Ahead
}

// worldOf looks through all that a zone is ahead: 0 if it is never so there.
func worldOf(z api.Zone, there int) int {
	first := 0
	for _, s := range append([]api.Shift{{Ahead: z.Ahead}}, z.Shifts...) {
		at := there - s.Ahead
		if at >= 1 && at <= lastTime && aheadOf(z, at) == s.Ahead && (first == 0 || at < first) {
			first = at
		}
	}
	return first
}

// allOf says T1, word by word, of all times.
func allOf(z api.Zone, e api.Event, times []int) []api.Time {
	var list []api.Time
	for _, which := range times {
		there := which
		for _, c := range e.Changes {
			if c.At == which {
				there = c.To
			}
		}
		if there == 0 {
			continue
		}
		if from := worldOf(z, there); from > 0 && from+e.Length <= lastTime {
			list = append(list, span(which, from, e.Length))
		}
	}
	slices.SortFunc(list, func(a, b api.Time) int {
		if a.From == b.From {
			return cmp.Compare(a.Which, b.Which)
		}
		return cmp.Compare(a.From, b.From)
	})
	return list
}

var rulesDrawn = []string{
	"daily", "daily every 2", "daily every 7", "daily count 10", "daily count 200", "daily on mo,fr", "daily months 2,11 days -1,1", "daily every 3 count 50 on mo,tu,we",
	"weekly", "weekly every 2 on mo,we,su", "weekly count 7 on tu", "weekly months 1,2,3", "weekly on mo,tu,we,th,fr,sa,su pick -1,1",
	"monthly", "monthly days -1,1,15", "monthly every 2 on 1mo,-1fr", "monthly count 5 days 31", "monthly on mo,tu,we,th,fr pick -1",
	"yearly", "yearly months 2 days 29", "yearly every 2 months 1,2,3,4,5,6,7,8,9,10,11,12 on mo", "yearly count 3 months 11 on 4th",
}

// drawTime near one of some, or one of them.
func drawTime(random *rand.Rand, times []int) int {
	t := times[random.IntN(len(times))]
	switch random.IntN(5) {
	case 0:
		t += random.IntN(3) - 1
	case 1:
		t += random.IntN(1801) - 900
	case 2:
		t += random.IntN(200001) - 100000
	}
	return min(max(t, 1), lastTime)
}

func drawTimes(random *rand.Rand, times []int, many int) []int {
	var list []int
	for range random.IntN(many + 1) {
		list = append(list, drawTime(random, times))
	}
	slices.Sort(list)
	return slices.Compact(list)
}

// drawEvent, with lists of times that may meet its own.
func drawEvent(t *testing.T, random *rand.Rand) api.Event {
	starts := []int{1, 1439, 1440, 66730170, 66730170 + random.IntN(1000000), 1 + random.IntN(lastTime), lastTime - random.IntN(2000000), lastTime}
	lengths := []int{0, 1, 90, random.IntN(3000), 100000}
	start, length := starts[random.IntN(len(starts))], lengths[random.IntN(len(lengths))]
	e := once(start, length)
	if random.IntN(6) > 0 {
		e = repeated(t, start, length, rulesDrawn[random.IntN(len(rulesDrawn))])
		if e.Rule.Count == 0 && random.IntN(3) == 0 {
			e.Rule.Until = min(max(e.Start/1440+random.IntN(700)-20, 1), lastTime/1440)
		}
	}
	near := append(allTimes(e, e.Start/1440+800), e.Start)
	e.More = drawTimes(random, near, 100)
	near = append(near, e.More...)
	e.Not = drawTimes(random, near, 60)
	for _, at := range drawTimes(random, near, 100) {
		c := api.Change{At: at}
		if random.IntN(4) > 0 {
			c.To = drawTime(random, near)
		}
		e.Changes = append(e.Changes, c)
	}
	return e
}

// drawZone whose shifts lie near some times.
func drawZone(random *rand.Rand, near []int) api.Zone {
	ahead := func() int {
		if random.IntN(4) == 0 {
			return []int{-900, 900, 0}[random.IntN(3)]
		}
		return random.IntN(1801) - 900
	}
	z := api.Zone{Ahead: ahead()}
	at := drawTime(random, near)
	for range random.IntN(21) {
		if at > lastTime {
			break
		}
		z.Shifts = append(z.Shifts, api.Shift{At: at, Ahead: ahead()})
		at += 1440 + random.IntN(2)*random.IntN(30000)
	}
	return z
}

// Events and zones that are drawn, always the same, against their Times as they are told one by one.
func TestDrawn(t *testing.T) {
	t.Parallel()
	random := rand.New(rand.NewPCG(9, 1))
	for range 300 {
		e := drawEvent(t, random)
		known := allTimes(e, e.Start/1440+horizon)
		z := drawZone(random, append(known, e.Start))
		if err := event.Check(e); err != nil {
			t.Fatalf("Check(%+v): %v", e, plain.Told(err))
		}
		if err := zone.Check(z); err != nil {
			t.Fatalf("Check(%+v): %v", z, plain.Told(err))
		}
		holdDrawn(t, random, z, e, allOf(z, e, known))
	}
}

// holdDrawn asks near the Times of an event, and no further than they are known.
func holdDrawn(t *testing.T, random *rand.Rand, z api.Zone, e api.Event, all []api.Time) {
	t.Helper()
	end := lastTime
	if last := (e.Start/1440+horizon)*1440 - mostAhead; last < end {
		end = last
	}
	near := []int{e.Start}
	for range min(len(all), 40) {
		near = append(near, all[random.IntN(len(all))].From)
	}
	for _, n := range near {
		from := min(max(n+random.IntN(3)-1, 1), lastTime)
		long := []int{0, 1, 1440, random.IntN(100000), random.IntN(mostSpan), mostSpan}
		to := min(from+long[random.IntN(len(long))], lastTime)
		if to <= end {
			holdBetween(t, z, e, from, to, all)
			holdBetween(t, z, e, max(1, to-mostSpan), to, all)
		}
		for _, after := range []int{from, from - mostNext, from - random.IntN(5000)} {
			if after >= 1 && min(after+mostNext, lastTime) <= end {
				holdNext(t, z, e, after, all)
			}
		}
	}
}
