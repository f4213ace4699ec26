package week_test

import (
	"math"
	"testing"
	"time"

	"chimework/api"
	"chimework/plain"
	"chimework/week"
)

// The ends are written out, so that they are held against numbers that the program did not work out.
const (
	lastDay   = 109573
	firstYear = 1900
	lastYear  = 2199
)

// noDays are none, up to the ends of int.
var noDays = []int{
	math.MinInt, math.MinInt + 1, math.MinInt / 2, -lastDay, -8, -7, -6, -3, -1, 0,
	lastDay + 1, lastDay + 2, lastDay + 7, lastDay + 365, math.MaxInt / 2, math.MaxInt - 3, math.MaxInt - 1, math.MaxInt,
}

var noYears = []int{
	math.MinInt, math.MinInt + 1, math.MinInt / 2, -firstYear, -1, 0, 1, 99, firstYear - 1,
	lastYear + 1, 2400, math.MaxInt / 2, math.MaxInt - 1, math.MaxInt,
}

// wantError asks for the error by its name and by P3's number of it.
func wantError(t *testing.T, what string, in any, err error, want api.Errno) {
	t.Helper()
	number := map[api.Errno]int{api.ErrRange: 1, api.ErrNone: 5}[want]
	if told := plain.Told(err); told != want || int(told) != number {
		t.Errorf("%s(%v): got error %v, want %v", what, in, err, want)
	}
}

// moment of the library's calendar that a day is.
func moment(n int) time.Time {
	return time.Date(1900, 1, n, 0, 0, 0, 0, time.UTC)
}

// number of a day of the library's calendar: by seconds, for a Duration does not reach over 300 years.
func number(year, month, d int) int {
	return int(time.Date(year, time.Month(month), d, 0, 0, 0, 0, time.UTC).Unix()-moment(1).Unix())/86400 + 1
}

func TestWeek(t *testing.T) {
	cases := []struct{ n, year, week int }{
		{1, 1900, 1}, // the first day is a Monday
		{7, 1900, 1},
		{8, 1900, 2},
		{364, 1900, 52}, // 1900-12-30, a Sunday
		{365, 1901, 1},  // 1900-12-31: of the year ahead
		{366, 1901, 1},
		{number(2021, 1, 3), 2020, 53}, // of the year behind
		{number(2021, 1, 4), 2021, 1},
		{number(2022, 1, 2), 2021, 52}, // of a year of 52 weeks behind
		{number(2024, 12, 29), 2024, 52},
		{number(2024, 12, 30), 2025, 1},
		{number(2026, 11, 16), 2026, 47},
		{number(2026, 12, 31), 2026, 53}, // a Thursday
		{number(2027, 1, 1), 2026, 53},
		{number(2100, 1, 1), 2099, 53},
		{lastDay - 2, 2199, 52}, // the last day whose week has its Thursday
	}
	for _, c := range cases {
		year, w, err := week.Week(c.n)
		if year != c.year || w != c.week || err != nil {
			t.Errorf("Week(%d): got %d, %d, %v, want %d, %d", c.n, year, w, err, c.year, c.week)
		}
	}
}

func TestWeekOfEachDay(t *testing.T) {
	for n := 1; n <= lastDay-2; n++ {
		year, w, err := week.Week(n)
		wantYear, wantWeek := moment(n).ISOWeek()
		if year != wantYear || w != wantWeek || err != nil {
			t.Fatalf("Week(%d): got %d, %d, %v, want %d, %d", n, year, w, err, wantYear, wantWeek)
		}
	}
}

// The last Monday and Tuesday are days, but the Thursday of their week is none.
func TestWeekWithoutThursday(t *testing.T) {
	for _, n := range append([]int{lastDay - 1, lastDay}, noDays...) {
		year, w, err := week.Week(n)
		if year != 0 || w != 0 {
			t.Errorf("Week(%d): got %d, %d beside an error", n, year, w)
		}
		wantError(t, "Week", n, err, api.ErrRange)
	}
}

func TestWeeks(t *testing.T) {
	cases := map[int]int{
		1900: 52, 1903: 53, 1904: 52, 1908: 53, 1999: 52, 2000: 52, 2004: 53, 2009: 53, 2015: 53,
		2020: 53, 2025: 52, 2026: 53, 2027: 52, 2028: 52, 2099: 53, 2100: 52, 2189: 53, 2198: 52, 2199: 52,
	}
	for year, want := range cases {
		if got, err := week.Weeks(year); got != want || err != nil {
			t.Errorf("Weeks(%d): got %d, %v, want %d", year, got, err, want)
		}
	}
}

// thursdays of a year of the library's calendar, one by one: each stands in another week of the year.
func thursdays(year int) int {
	count := 0
	for d := time.Date(year, 1, 1, 0, 0, 0, 0, time.UTC); d.Year() == year; d = d.AddDate(0, 0, 1) {
		if d.Weekday() == time.Thursday {
			count++
		}
	}
	return count
}

func TestWeeksOfEachYear(t *testing.T) {
	for year := firstYear; year <= lastYear; year++ {
		if got, err := week.Weeks(year); got != thursdays(year) || err != nil {
			t.Errorf("Weeks(%d): got %d, %v, want %d", year, got, err, thursdays(year))
		}
	}
}

func TestWeeksOfNoYear(t *testing.T) {
	for _, year := range noYears {
		got, err := week.Weeks(year)
		if got != 0 {
			t.Errorf("Weeks(%d): got %d beside an error", year, got)
		}
		wantError(t, "Weeks", year, err, api.ErrRange)
	}
}

func TestFirst(t *testing.T) {
	cases := []struct{ year, week, want int }{
		{1900, 1, 1}, // the first week begins with the calendar
		{1900, 2, 8},
		{1900, 52, 358},
		{1901, 1, 365}, // its Monday is of the year ahead of it
		{2021, 1, number(2021, 1, 4)},
		{2025, 1, number(2024, 12, 30)},
		{2026, 1, number(2025, 12, 29)},
		{2026, 47, number(2026, 11, 16)},
		{2026, 53, number(2026, 12, 28)},
		{2027, 1, number(2027, 1, 4)},
		{2199, 1, number(2198, 12, 31)},
		{2199, 52, lastDay - 8},
	}
	for _, c := range cases {
		if got, err := week.First(c.year, c.week); got != c.want || err != nil {
			t.Errorf("First(%d, %d): got %d, %v, want %d", c.year, c.week, got, err, c.want)
		}
	}
}

// The weeks stand one behind the other, without a gap, from day 1 on: so every Monday is a day.
func TestFirstOfEachWeek(t *testing.T) {
	want := 1
	for year := firstYear; year <= lastYear; year++ {
		for w := 1; w <= thursdays(year); w++ {
			if got, err := week.First(year, w); got != want || err != nil {
				t.Fatalf("First(%d, %d): got %d, %v, want %d", year, w, got, err, want)
			}
			want += 7
		}
	}
	if want != lastDay-1 {
		t.Errorf("the weeks end ahead of day %d, want %d", want, lastDay-1)
	}
}

func TestFirstOfNoWeek(t *testing.T) {
	type pair struct{ year, week int }
	cases := []pair{{1900, 53}, {2199, 53}, {2025, 53}, {2026, 54}, {2200, 1}, {1899, 52}, {1899, 0}}
	for _, year := range noYears {
		cases = append(cases, pair{year, 1}, pair{year, 52}, pair{year, math.MaxInt}, pair{year, math.MinInt})
	}
	for _, year := range []int{firstYear, 2025, 2026, lastYear} {
		for _, w := range []int{math.MinInt, math.MinInt / 7, -53, -52, -1, 0, 54, 100, math.MaxInt / 7, math.MaxInt - 1, math.MaxInt} {
			cases = append(cases, pair{year, w})
		}
	}
	for _, c := range cases {
		got, err := week.First(c.year, c.week)
		if got != 0 {
			t.Errorf("First(%d, %d): got %d beside an error", c.year, c.week, got)
		}
		wantError(t, "First", c, err, api.ErrRange)
	}
}
