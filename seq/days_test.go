package seq_test

import (
	"math"
	"math/rand/v2"
	"slices"
	"testing"
	"time"

	"chimework/api"
	"chimework/period"
	"chimework/rule"
	"chimework/seq"
)

// theDays says S1, word by word: every period is looked through, and what there is too much is cut off.
func theDays(r api.Rule, start int) []int {
	list := []int{start}
	for k := 0; ; k++ {
		days, err := period.Days(r, start, k)
		if err != nil {
			break
		}
		for _, n := range days {
			if n > start {
				list = append(list, n)
			}
		}
	}
	if r.Count != 0 {
		list = list[:min(len(list), r.Count)]
	}
	if r.Until != 0 {
		list = slices.DeleteFunc(list, func(n int) bool { return n > r.Until })
	}
	return list
}

// asks are numbers that may make a difference: the ends, what is near start and Until, and what is near some of the days.
func asks(r api.Rule, start int, days []int) []int {
	list := []int{math.MinInt, 0, lastDay, lastDay + 1, math.MaxInt}
	near := []int{start, r.Until}
	for i := range days {
		if i == 1 || i == maxCount || i == len(days)/2 || i == len(days)-1 {
			near = append(near, days[i])
		}
	}
	for _, n := range near {
		list = append(list, n-1, n, n+1)
	}
	slices.Sort(list)
	return slices.Compact(list)
}

// holdAll holds all five calls against THE DAYS.
func holdAll(t *testing.T, r api.Rule, start int) {
	t.Helper()
	holdList(t, r, start, theDays(r, start))
}

func holdList(t *testing.T, r api.Rule, start int, days []int) {
	t.Helper()
	if !slices.IsSorted(days) || len(slices.Compact(slices.Clone(days))) != len(days) {
		t.Fatalf("%+v, start %d: the days do not rise: %v", r, start, days)
	}
	for _, n := range []int{0, 1, 2, len(days) - 1, len(days), len(days) + 1, maxCount - 1, maxCount} {
		if n >= 0 && n <= maxCount {
			wantFirst(t, r, start, n, days[:min(n, len(days))])
		}
	}
	wantCount(t, r, start, min(len(days), maxCount+1))
	list := asks(r, start, days)
	for i, n := range list {
		at, found := slices.BinarySearch(days, n)
		wantHas(t, r, start, n, found)
		next := at
		if found {
			next++
		}
		if next < len(days) {
			wantNext(t, r, start, n, days[next])
		} else {
			wantNext(t, r, start, n, 0)
		}
		for _, to := range []int{list[(i+1)%len(list)], list[(i+5)%len(list)]} {
			holdBetween(t, r, start, n, to, days)
		}
	}
}

func holdBetween(t *testing.T, r api.Rule, start, from, to int, days []int) {
	t.Helper()
	first, _ := slices.BinarySearch(days, from)
	end, found := slices.BinarySearch(days, to)
	if found {
		end++
	}
	want := days[first:max(first, end)]
	// To list very many of them would take long, and tell no more.
	if len(want) <= 3*maxCount {
		wantEach(t, r, start, from, to, want)
	}
	if len(want) > maxCount {
		wantFull(t, r, start, from, to)
	} else {
		wantBetween(t, r, start, from, to, want)
	}
}

// Each frequency, with each Every, without lists: the library's calendar alone says what comes.
func TestByTheLibrarysCalendar(t *testing.T) {
	t.Parallel()
	step := func(freq, many int, m time.Time) time.Time {
		switch freq {
		case api.Weekly:
			return m.AddDate(0, 0, 7*many)
		case api.Monthly:
			return m.AddDate(0, many, 0)
		case api.Yearly:
			return m.AddDate(many, 0, 0)
		}
		return m.AddDate(0, 0, many)
	}
	for freq := api.Daily; freq <= api.Yearly; freq++ {
		for every := 1; every <= 50; every++ {
			for _, start := range daysOf(t, "1900-01-01 2024-02-29 2096-01-31 2199-12-30") {
				var days []int
				for many := 0; ; many += every {
					m := step(freq, many, moment(start))
					if numberOf(m) > lastDay {
						break
					}
					// Where a month is too short the library goes on into the next one: there is no such day.
					if freq <= api.Weekly || m.Day() == moment(start).Day() {
						days = append(days, numberOf(m))
					}
				}
				holdList(t, api.Rule{Freq: freq, Every: every}, start, days)
			}
		}
	}
}

// Rules that ask for the same days with each frequency: what the library's calendar says of each day alone.
func TestSameDaysByEachFrequency(t *testing.T) {
	t.Parallel()
	cases := []struct {
		rules []string
		asks  func(m time.Time) bool
	}{
		{[]string{"daily on mo,th", "weekly on mo,th", "monthly on mo,th", "yearly months 1,2,3,4,5,6,7,8,9,10,11,12 on mo,th"},
			func(m time.Time) bool { return m.Weekday() == time.Monday || m.Weekday() == time.Thursday }},
		{[]string{"daily days 13 on fr", "monthly days 13 on fr", "yearly months 1,2,3,4,5,6,7,8,9,10,11,12 days 13 on fr"},
			func(m time.Time) bool { return m.Day() == 13 && m.Weekday() == time.Friday }},
		{[]string{"daily months 2 days 29 on su", "monthly months 2 days 29 on su", "yearly months 2 days 29 on su"},
			func(m time.Time) bool {
				return m.Month() == time.February && m.Day() == 29 && m.Weekday() == time.Sunday
			}},
		{[]string{"daily days -1", "monthly days -1", "monthly on mo,tu,we,th,fr,sa,su pick -1"},
			func(m time.Time) bool { return m.AddDate(0, 0, 1).Day() == 1 }},
		{[]string{"monthly on -1fr", "monthly on fr pick -1", "yearly months 1,2,3,4,5,6,7,8,9,10,11,12 on -1fr"},
			func(m time.Time) bool { return m.Weekday() == time.Friday && m.AddDate(0, 0, 7).Month() != m.Month() }},
		{[]string{"daily months 12 on we", "weekly months 12 on we", "monthly months 12 on we", "yearly months 12 on we"},
			func(m time.Time) bool { return m.Month() == time.December && m.Weekday() == time.Wednesday }},
	}
	for _, c := range cases {
		for _, start := range daysOf(t, "1900-01-01 2160-02-29 2199-12-20") {
			days := []int{start}
			for n := start + 1; n <= lastDay; n++ {
				if c.asks(moment(n)) {
					days = append(days, n)
				}
			}
			for _, text := range c.rules {
				holdList(t, ruleOf(t, text), start, days)
				// From the first day on it would take long, and tell no more.
				if start != 1 {
					holdBounds(t, ruleOf(t, text), start, days)
				}
			}
		}
	}
}

// holdBounds cuts THE DAYS by Count and by Until.
func holdBounds(t *testing.T, r api.Rule, start int, days []int) {
	t.Helper()
	for _, count := range []int{1, 2, maxCount} {
		r.Count = count
		holdList(t, r, start, days[:min(count, len(days))])
	}
	r.Count = 0
	middle := days[len(days)/2]
	for _, until := range []int{1, start - 1, start, middle - 1, middle, middle + 1, lastDay} {
		if until > 0 && until <= lastDay {
			r.Until = until
			holdList(t, r, start, slices.DeleteFunc(slices.Clone(days), func(n int) bool { return n > until }))
		}
	}
}

// draw takes some of a list, none of it as often as not.
func draw[T any](source *rand.Rand, list []T, most int) []T {
	if source.IntN(2) == 0 {
		return nil
	}
	var some []T
	count := 1 + source.IntN(most)
	for i, item := range list {
		if source.IntN(len(list)-i) < count-len(some) {
			some = append(some, item)
		}
	}
	return some
}

// drawRule draws on until Check lets a rule pass.
func drawRule(source *rand.Rand) api.Rule {
	places := slices.DeleteFunc(upTo(-31, 31), func(n int) bool { return n == 0 })
	var weeks []api.Nth
	for weekday := 1; weekday <= 7; weekday++ {
		for n := -5; n <= 5; n++ {
			weeks = append(weeks, api.Nth{N: n, Weekday: weekday})
		}
	}
	eachWeekday := slices.DeleteFunc(slices.Clone(weeks), func(w api.Nth) bool { return w.N != 0 })
	for {
		r := api.Rule{
			Freq: 1 + source.IntN(4), Every: 1 + source.IntN(50),
			Months: draw(source, upTo(1, 12), 12), Days: draw(source, places, 31), Pick: draw(source, places, 20),
			Weeks: draw(source, weeks, 20),
		}
		if source.IntN(2) == 0 {
			r.Weeks = draw(source, eachWeekday, 7)
		}
		if source.IntN(4) == 0 {
			r.Every = 1
		}
		switch source.IntN(3) {
		case 0:
			r.Count = 1 + source.IntN(maxCount)
		case 1:
			r.Until = 1 + source.IntN(lastDay)
		}
		if rule.Check(r) == nil {
			return r
		}
	}
}

// The seed is fixed: the same rules come each time.
func TestDrawnRules(t *testing.T) {
	t.Parallel()
	source := rand.New(rand.NewPCG(6, 2026))
	var kinds [5]int
	some := 0
	for range 300 {
		r, start := drawRule(source), 1+source.IntN(lastDay)
		holdAll(t, r, start)
		kinds[r.Freq]++
		if count, _ := seq.Count(r, start); count > 1 {
			some++
		}
	}
	if slices.Min(kinds[1:]) < 30 || some < 100 {
		t.Errorf("of each frequency there are %v, of which %d have several days", kinds[1:], some)
	}
}
