package event_test

import (
	"math/rand/v2"
	"slices"
	"testing"

	"chimework/api"
	"chimework/event"
	"chimework/period"
	"chimework/plain"
)

// allTimes says E2, word by word, up to the end of a day: every period is looked through, and what is there is kept or taken away.
func allTimes(e api.Event, end int) []int {
	is := map[int]int{}
	if !e.Repeats {
		is[e.Start]++
	}
	start, minute := e.Start/1440+1, e.Start%1440
	for i, n := range theDays(e, start, end) {
		if (e.Rule.Count == 0 || i < e.Rule.Count) && (e.Rule.Until == 0 || n <= e.Rule.Until) {
			is[(n-1)*1440+minute]++
		}
	}
	for _, t := range e.More {
		is[t]++
	}
	for _, t := range e.Not {
		delete(is, t)
	}
	var list []int
	for t := range is {
		list = append(list, t)
	}
	slices.Sort(list)
	return list
}

// theDays of a rule, without its bounds.
func theDays(e api.Event, start, end int) []int {
	if !e.Repeats {
		return nil
	}
	list := []int{start}
	for k := 0; ; k++ {
		begin, err := period.Begin(e.Rule, start, k)
		if err != nil || begin > end {
			return list
		}
		days, _ := period.Days(e.Rule, start, k)
		for _, n := range days {
			if n > start {
				list = append(list, n)
			}
		}
	}
}

// hold all three calls against the times of an event.
func hold(t *testing.T, e api.Event, from, to int, times []int) {
	t.Helper()
	var want []int
	for _, n := range times {
		if n >= from && n <= to {
			want = append(want, n)
		}
	}
	if len(want) > mostFull {
		wantNone(t, e, from, to, api.ErrFull)
	} else {
		wantTimes(t, e, from, to, want)
	}
}

func holdMoved(t *testing.T, e api.Event, which int, times []int) {
	t.Helper()
	if !slices.Contains(times, which) {
		wantNotMoved(t, e, which, api.ErrNone)
		return
	}
	for _, c := range e.Changes {
		if c.At == which {
			wantMoved(t, e, which, c.To, c.To == 0)
			return
		}
	}
	wantMoved(t, e, which, which, false)
}

var rulesDrawn = []string{
	"daily", "daily every 2", "daily every 7", "daily count 10", "daily count 200", "daily on mo,fr", "daily months 2,11 days -1,1", "daily every 3 count 50 on mo,tu,we",
	"weekly", "weekly every 2 on mo,we,su", "weekly count 7 on tu", "weekly months 1,2,3", "weekly on mo,tu,we,th,fr,sa,su pick -1,1",
	"monthly", "monthly days -1,1,15", "monthly every 2 on 1mo,-1fr", "monthly count 5 days 31", "monthly on mo,tu,we,th,fr pick -1",
	"yearly", "yearly months 2 days 29", "yearly every 2 months 1,2,3,4,5,6,7,8,9,10,11,12 on mo", "yearly count 3 months 11 on 4th",
}

// drawTimes near some of the event's own, or anywhere near.
func drawTimes(random *rand.Rand, times []int, many int) []int {
	var list []int
	for range random.IntN(many + 1) {
		t := times[random.IntN(len(times))]
		switch random.IntN(4) {
		case 0:
			t += random.IntN(3) - 1
		case 1:
			t += random.IntN(200001) - 100000
		}
		list = append(list, min(max(t, 1), lastTime))
	}
	slices.Sort(list)
	return slices.Compact(list)
}

// draw an event, and lists of times that may meet its own.
func draw(t *testing.T, random *rand.Rand) api.Event {
	starts := []int{1, 1439, 1440, 66730170, 66730170 + random.IntN(1000000), 1 + random.IntN(lastTime), lastTime - random.IntN(2000000), lastTime}
	e := once(starts[random.IntN(len(starts))])
	if random.IntN(6) > 0 {
		e = repeated(t, e.Start, rulesDrawn[random.IntN(len(rulesDrawn))])
		if e.Rule.Count == 0 && random.IntN(3) == 0 {
			e.Rule.Until = min(max(e.Start/1440+random.IntN(700)-20, 1), lastDay)
		}
	}
	times := allTimes(e, e.Start/1440+800)
	if len(times) == 0 {
		times = []int{e.Start}
	}
	e.More = drawTimes(random, times, 100)
	e.Not = drawTimes(random, append(times, e.More...), 100)
	for _, at := range drawTimes(random, append(times, e.More...), 100) {
		e.Changes = append(e.Changes, api.Change{At: at, To: random.IntN(2) * (1 + random.IntN(lastTime))})
	}
	return e
}

// Events that are drawn, always the same, against their times as they are told one by one.
func TestDrawn(t *testing.T) {
	t.Parallel()
	random := rand.New(rand.NewPCG(8, 2))
	for range 300 {
		e := draw(t, random)
		if err := event.Check(e); err != nil {
			t.Fatalf("Check(%+v): %v", e, plain.Told(err))
		}
		times := allTimes(e, e.Start/1440+1600)
		near := append(slices.Concat(e.More, e.Not), e.Start)
		for range 40 {
			if len(times) > 0 {
				near = append(near, times[random.IntN(len(times))])
			}
		}
		for _, n := range near {
			from := min(max(n+random.IntN(3)-1, 1), lastTime)
			spans := []int{0, 1, 1440, random.IntN(100000), random.IntN(mostSpan), mostSpan}
			to := min(from+spans[random.IntN(len(spans))], lastTime)
			// Further than that the times are not told one by one.
			if to/1440 < e.Start/1440+1600 {
				hold(t, e, from, to, times)
				hold(t, e, max(1, to-mostSpan), from, times)
			}
			if n/1440 < e.Start/1440+1600 {
				for _, which := range []int{n - 1, n, n + 1} {
					holdMoved(t, e, which, times)
				}
			}
		}
	}
}
