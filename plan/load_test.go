package plan_test

import (
	"math"
	"testing"
	"time"

	"chimework/api"
	"chimework/event"
	"chimework/plan"
)

// lengthOf a month, by the library's calendar.
func lengthOf(year, month int) int {
	return time.Date(year, time.Month(month)+1, 0, 0, 0, 0, 0, time.UTC).Day()
}

// wantLoadOf asks Load for numbers by day of the month: all others are 0.
func wantLoadOf(t *testing.T, l []api.Event, year, month int, want map[int]int) {
	t.Helper()
	list := make([]int, lengthOf(year, month))
	for d, many := range want {
		list[d-1] = many
	}
	wantLoad(t, l, year, month, list)
}

// always makes the load of days that have all as many.
func always(year, month, many int) []int {
	list := make([]int, lengthOf(year, month))
	for i := range list {
		list[i] = many
	}
	return list
}

// monthOf tells the first and the last minute of a month, by the library's calendar.
func monthOf(year, month int) (int, int) {
	minutes := func(m time.Time) int {
		return int(m.Unix()-time.Date(1900, 1, 1, 0, 0, 0, 0, time.UTC).Unix()) / 60
	}
	return minutes(time.Date(year, time.Month(month), 1, 0, 0, 0, 0, time.UTC)), minutes(time.Date(year, time.Month(month)+1, 1, 0, 0, 0, 0, time.UTC)) - 1
}

// All of a picture's events begin in November 2026, from the 16th on.
func TestLoadOfPictures(t *testing.T) {
	for _, p := range pictures(t) {
		for _, p := range []picture{p, reversed(p)} {
			want := map[int]int{}
			for i, many := range p.load {
				want[16+i] = many
			}
			wantLoadOf(t, p.events, 2026, 11, want)
			wantLoadOf(t, p.events, 2026, 10, nil)
			wantLoadOf(t, p.events, 2026, 12, nil)
			wantLoadOf(t, p.events, 2025, 11, nil)
			wantLoadOf(t, p.events, 2027, 11, nil)
		}
	}
}

// Each month of the calendar: with no event, with one that comes each day, and at its ends.
func TestLoadOfEachMonth(t *testing.T) {
	early, late := repeated(t, 1, 5, "daily"), repeated(t, 1439, 5, "daily")
	monthly := repeated(t, timeOf(t, "1900-01-31 12:00"), 0, "monthly days -1")
	for year := 1900; year <= 2199; year++ {
		for month := 1; month <= 12; month++ {
			wantLoad(t, nil, year, month, always(year, month, 0))
			wantLoad(t, []api.Event{early}, year, month, always(year, month, 1))
			wantLoad(t, []api.Event{late, early}, year, month, always(year, month, 2))
			wantLoadOf(t, []api.Event{monthly}, year, month, map[int]int{lengthOf(year, month): 1})
			first, last := monthOf(year, month)
			ends := once(max(first, 1), 100)
			ends.More = []int{min(last, lastTime)}
			beside := once(max(first, 2)-1, 100)
			beside.More = []int{min(last, lastTime-1) + 1}
			if year == 1900 && month == 1 || year == 2199 && month == 12 {
				beside.Not = []int{1, lastTime}
			}
			wantLoadOf(t, []api.Event{ends, beside}, year, month, map[int]int{1: 1, lengthOf(year, month): 1})
		}
	}
}

func TestLoadOfLongAndShortMonths(t *testing.T) {
	daily := []api.Event{repeated(t, 1, 0, "daily")}
	for _, c := range [][3]int{{2026, 2, 28}, {2028, 2, 29}, {1900, 2, 28}, {2000, 2, 29}, {2100, 2, 28}, {2026, 4, 30}, {2026, 1, 31}, {1900, 1, 31}, {2199, 12, 31}} {
		got, err := plan.Load(daily, c[0], c[1])
		wantError(t, "Load", err, api.OK)
		if len(got) != c[2] {
			t.Errorf("%d-%d: got %d days, want %d", c[0], c[1], len(got), c[2])
		}
	}
}

func TestLoadOfOneDay(t *testing.T) {
	minutes := once(begin, 10)
	minutes.More = []int{begin + 1, begin + 2, begin + 1439, begin + 1440}
	l := []api.Event{minutes, repeated(t, begin-7*dayLong+60, 90, "weekly on mo"), repeated(t, begin-7*dayLong+60, 90, "weekly on mo"), once(begin+1439, 3000)}
	wantLoadOf(t, l, 2026, 11, map[int]int{9: 2, 16: 7, 17: 1, 23: 2, 30: 2})
}

// What was moved into the month, out of it, within it; what is called off; and a Change that is of no time of the event.
func TestLoadOfChanges(t *testing.T) {
	first, last := monthOf(2026, 11)
	for _, text := range []string{"weekly count 9", "weekly until 2026-12-21"} {
		e := repeated(t, timeOf(t, "2026-10-26 09:30"), 90, text) // 26 10, 2 9 16 23 30 11, 7 14 21 12
		load := func(want map[int]int, changes ...api.Change) {
			t.Helper()
			e.Changes = changes
			wantLoadOf(t, []api.Event{e}, 2026, 11, want)
		}
		on := func(date string) int { return timeOf(t, date+" 09:30") }
		load(map[int]int{2: 1, 9: 1, 16: 1, 23: 1, 30: 1})
		// Into it.
		load(map[int]int{1: 1, 2: 1, 9: 1, 16: 1, 23: 1, 30: 1}, api.Change{At: on("2026-10-26"), To: first})
		load(map[int]int{2: 1, 9: 1, 16: 1, 23: 1, 30: 2}, api.Change{At: on("2026-12-21"), To: last})
		load(map[int]int{2: 1, 9: 1, 16: 3, 23: 1, 30: 1}, api.Change{At: on("2026-10-26"), To: on("2026-11-16")}, api.Change{At: on("2026-12-07"), To: on("2026-11-16")})
		// Out of it.
		load(map[int]int{9: 1, 16: 1, 23: 1, 30: 1}, api.Change{At: on("2026-11-02"), To: first - 1})
		load(map[int]int{2: 1, 9: 1, 16: 1, 23: 1}, api.Change{At: on("2026-11-30"), To: last + 1})
		load(map[int]int{2: 1, 16: 1, 30: 1}, api.Change{At: on("2026-11-09"), To: 1}, api.Change{At: on("2026-11-23"), To: lastTime})
		// Within it, also to its own day, and to where it was.
		load(map[int]int{2: 1, 9: 1, 16: 1, 24: 1, 30: 1}, api.Change{At: on("2026-11-23"), To: on("2026-11-24")})
		load(map[int]int{2: 1, 9: 1, 16: 1, 23: 1, 30: 1}, api.Change{At: on("2026-11-23"), To: on("2026-11-23") + 60}, api.Change{At: on("2026-11-30"), To: on("2026-11-30")})
		load(map[int]int{1: 1, 9: 1, 16: 1, 23: 1, 30: 1}, api.Change{At: on("2026-11-02"), To: first})
		// Called off, in the month and beside it.
		load(map[int]int{2: 1, 9: 1, 23: 1, 30: 1}, api.Change{At: on("2026-11-16")})
		load(map[int]int{2: 1, 9: 1, 16: 1, 23: 1, 30: 1}, api.Change{At: on("2026-10-26")}, api.Change{At: on("2026-12-07")})
		load(nil, api.Change{At: on("2026-11-02")}, api.Change{At: on("2026-11-09")}, api.Change{At: on("2026-11-16")}, api.Change{At: on("2026-11-23")}, api.Change{At: on("2026-11-30")})
		// Of no time of it: ahead of it, between, behind it.
		load(map[int]int{2: 1, 9: 1, 16: 1, 23: 1, 30: 1}, api.Change{At: on("2026-10-19"), To: first}, api.Change{At: on("2026-11-16") + 1, To: on("2026-11-17")}, api.Change{At: on("2026-12-28"), To: last})
	}
}

// Those that are left out by Not are not there, though More has them; More counts once what is there already.
func TestLoadOfMoreAndNot(t *testing.T) {
	e := repeated(t, begin, 0, "daily count 5")
	e.More = []int{begin, begin + dayLong + 1, begin + 3*dayLong, begin + 7*dayLong}
	e.Not = []int{begin + 2*dayLong, begin + 3*dayLong, begin + 9*dayLong}
	wantLoadOf(t, []api.Event{e}, 2026, 11, map[int]int{16: 1, 17: 2, 20: 1, 23: 1})
	e.Changes = []api.Change{{At: begin + 2*dayLong, To: begin + dayLong}, {At: begin + 7*dayLong, To: begin + 8*dayLong}}
	wantLoadOf(t, []api.Event{e}, 2026, 11, map[int]int{16: 1, 17: 2, 20: 1, 24: 1})
}

// It counts times in their zone, wherever that is: also those that would be in a gap, or end at no time.
func TestLoadHasNoZone(t *testing.T) {
	wantLoadOf(t, []api.Event{once(1, 100000)}, 1900, 1, map[int]int{1: 1})
	wantLoadOf(t, []api.Event{once(lastTime, 100000)}, 2199, 12, map[int]int{31: 1})
	wantLoadOf(t, []api.Event{once(timeOf(t, "2026-03-29 02:30"), 60)}, 2026, 3, map[int]int{29: 1})
}

// In a month an event may have more times than Local tells.
func TestLoadOfManyTimes(t *testing.T) {
	first, _ := monthOf(2026, 11)
	e := repeated(t, first, 0, "daily")
	for i := range mostList {
		e.More = append(e.More, first+2+i)
		e.Changes = append(e.Changes, api.Change{At: first + (40+i)*dayLong, To: first + 5*dayLong + i/2})
	}
	want := always(2026, 11, 1)
	want[0] += mostList
	want[5] += mostList
	wantLoad(t, []api.Event{e}, 2026, 11, want)
	var l []api.Event
	for range mostEvents {
		l = append(l, e)
	}
	for i := range want {
		want[i] *= mostEvents
	}
	wantLoad(t, l, 2026, 11, want)
}

// The days sum up to all times of the month, as chapter 8 tells them.
func TestLoadSumsUp(t *testing.T) {
	var l []api.Event
	for i, text := range []string{"daily", "daily every 2", "weekly on mo,we,su", "monthly days -1,1,15", "yearly", "monthly count 200 on 1mo", "daily count 150"} {
		e := repeated(t, begin-400*dayLong+i*1000, 10*i, text)
		e.More = []int{begin + i, begin + 31*dayLong, begin + 62*dayLong}
		l = append(l, e)
	}
	for year := 2024; year <= 2029; year++ {
		for month := 1; month <= 12; month++ {
			first, last := monthOf(year, month)
			want := 0
			for _, e := range l {
				list, err := event.Local(e, first, last)
				wantError(t, "Local", err, api.OK)
				want += len(list)
			}
			days, err := plan.Load(l, year, month)
			wantError(t, "Load", err, api.OK)
			for _, many := range days {
				want -= many
			}
			if want != 0 {
				t.Errorf("%d-%d: %v sums up to %d too few", year, month, days, want)
			}
		}
	}
}

func TestLoadOfNoMonth(t *testing.T) {
	numbers := []int{math.MinInt, math.MinInt32, -2026, -1, math.MaxInt32, math.MaxInt}
	lists := [][]api.Event{nil, each(0, 10), some(mostEvents+1, 1)}
	for _, l := range lists {
		for _, month := range append(numbers, 0, 13) {
			for _, year := range []int{1899, 1900, 2026, 2199, 2200} {
				wantNoLoad(t, l, year, month, api.ErrRange)
			}
		}
		for _, year := range append(numbers, 0, 1, 1899, 2200) {
			for month := 0; month <= 13; month++ {
				wantNoLoad(t, l, year, month, api.ErrRange)
			}
		}
	}
}
