package day_test

import (
	"math"
	"testing"
	"time"

	"chimework/api"
	"chimework/day"
	"chimework/plain"
)

// lastDay is written out, so that Last is held against a number that the program did not work out.
const lastDay = 109573

// farYears lie outside the calendar, up to the ends of int.
var farYears = []int{math.MinInt, math.MinInt + 1, -2000, -1900, -1, 0, 1, 99, 1600, 1899, 2200, 2400, math.MaxInt - 1, math.MaxInt}

// noMonths are none, up to the ends of int.
var noMonths = []int{math.MinInt, -12, -1, 0, 13, 14, math.MaxInt}

// noDays are numbers of no day, up to the ends of int.
var noDays = []int{math.MinInt, math.MinInt + 1, -lastDay, -7, -1, 0, lastDay + 1, lastDay + 7, math.MaxInt - 1, math.MaxInt}

func wantRange(t *testing.T, what string, in any, err error) {
	t.Helper()
	// The 1 is P3's number of ErrRange.
	if plain.Told(err) != api.ErrRange || int(plain.Told(err)) != 1 {
		t.Errorf("%s(%v): got error %v, want ErrRange", what, in, err)
	}
}

func TestLeap(t *testing.T) {
	leap := []int{2024, 2028, 1904, 2196, 2000, 1600, 2400, 4, 0, -4, -400, math.MinInt, math.MaxInt - 3}
	common := []int{2025, 2026, 2027, 1900, 2100, 2199, 2200, 1800, 1, -1, -2, -100, math.MinInt + 1, math.MaxInt, math.MaxInt - 7}
	for _, year := range leap {
		if !day.Leap(year) {
			t.Errorf("Leap(%d): got false", year)
		}
	}
	for _, year := range common {
		if day.Leap(year) {
			t.Errorf("Leap(%d): got true", year)
		}
	}
}

func TestLeapYearByYear(t *testing.T) {
	for year := 1800; year <= 2300; year++ {
		want := time.Date(year, 12, 31, 0, 0, 0, 0, time.UTC).YearDay() == 366
		if got := day.Leap(year); got != want {
			t.Errorf("Leap(%d): got %v, want %v", year, got, want)
		}
	}
}

func TestDays(t *testing.T) {
	cases := []struct{ year, month, want int }{
		{1900, 1, 31}, {1900, 2, 28}, {1904, 2, 29}, {2000, 2, 29}, {2024, 2, 29}, {2026, 2, 28},
		{2100, 2, 28}, {2196, 2, 29}, {2199, 2, 28}, {2199, 12, 31},
		{2026, 3, 31}, {2026, 4, 30}, {2026, 5, 31}, {2026, 6, 30}, {2026, 7, 31},
		{2026, 8, 31}, {2026, 9, 30}, {2026, 10, 31}, {2026, 11, 30}, {2026, 12, 31},
	}
	for _, c := range cases {
		got, err := day.Days(c.year, c.month)
		if got != c.want || err != nil {
			t.Errorf("Days(%d, %d): got %d, %v, want %d", c.year, c.month, got, err, c.want)
		}
	}
}

func TestDaysWrong(t *testing.T) {
	check := func(year, month int) {
		got, err := day.Days(year, month)
		in := [2]int{year, month}
		wantRange(t, "Days", in, err)
		if got != 0 {
			t.Errorf("Days(%v): got %d beside an error, want 0", in, got)
		}
	}
	for _, year := range farYears {
		for _, month := range []int{1, 2, 12} {
			check(year, month)
		}
	}
	for _, month := range noMonths {
		for _, year := range []int{1900, 2024, 2199} {
			check(year, month)
		}
		for _, year := range farYears {
			check(year, month)
		}
	}
}

func TestOfAndDate(t *testing.T) {
	cases := []struct {
		date api.Date
		n    int
	}{
		{api.Date{Year: 1900, Month: 1, Day: 1}, 1},
		{api.Date{Year: 1900, Month: 1, Day: 31}, 31},
		{api.Date{Year: 1900, Month: 2, Day: 1}, 32},
		{api.Date{Year: 1900, Month: 2, Day: 28}, 59},
		{api.Date{Year: 1900, Month: 3, Day: 1}, 60},
		{api.Date{Year: 1900, Month: 12, Day: 31}, 365},
		{api.Date{Year: 1901, Month: 1, Day: 1}, 366},
		{api.Date{Year: 1904, Month: 2, Day: 29}, 1520},
		{api.Date{Year: 1904, Month: 12, Day: 31}, 1826},
		{api.Date{Year: 1905, Month: 1, Day: 1}, 1827},
		{api.Date{Year: 2000, Month: 2, Day: 29}, 36584},
		{api.Date{Year: 2026, Month: 11, Day: 16}, 46341},
		{api.Date{Year: 2199, Month: 12, Day: 31}, lastDay},
	}
	for _, c := range cases {
		if n, err := day.Of(c.date); n != c.n || err != nil {
			t.Errorf("Of(%v): got %d, %v, want %d", c.date, n, err, c.n)
		}
		if d, err := day.Date(c.n); d != c.date || err != nil {
			t.Errorf("Date(%d): got %v, %v, want %v", c.n, d, err, c.date)
		}
	}
}

func TestOfWrong(t *testing.T) {
	wrong := []api.Date{
		{},
		{Year: 2026, Month: 2, Day: 29}, {Year: 2024, Month: 2, Day: 30}, {Year: 1900, Month: 2, Day: 29}, {Year: 2100, Month: 2, Day: 29},
		{Year: 2000, Month: 2, Day: 30}, {Year: 2026, Month: 4, Day: 31}, {Year: 2026, Month: 1, Day: 32}, {Year: 2199, Month: 12, Day: 32},
		{Year: 1900, Month: 1, Day: 0}, {Year: 2026, Month: 3, Day: -1},
		{Year: 2026, Month: 3, Day: math.MinInt}, {Year: 2026, Month: 3, Day: math.MaxInt},
		{Year: 1899, Month: 12, Day: 31}, {Year: 2200, Month: 1, Day: 1},
		{Year: math.MinInt, Month: math.MinInt, Day: math.MinInt}, {Year: math.MaxInt, Month: math.MaxInt, Day: math.MaxInt},
	}
	for _, year := range farYears {
		wrong = append(wrong, api.Date{Year: year, Month: 1, Day: 1})
	}
	for _, month := range noMonths {
		wrong = append(wrong, api.Date{Year: 2026, Month: month, Day: 1})
	}
	for _, d := range wrong {
		n, err := day.Of(d)
		wantRange(t, "Of", d, err)
		if n != 0 {
			t.Errorf("Of(%v): got %d beside an error, want 0", d, n)
		}
	}
}

func TestDateAndWeekdayWrong(t *testing.T) {
	for _, n := range noDays {
		d, err := day.Date(n)
		wantRange(t, "Date", n, err)
		if d != (api.Date{}) {
			t.Errorf("Date(%d): got %v beside an error, want an empty one", n, d)
		}
		w, err := day.Weekday(n)
		wantRange(t, "Weekday", n, err)
		if w != 0 {
			t.Errorf("Weekday(%d): got %d beside an error, want 0", n, w)
		}
	}
}

func TestWeekday(t *testing.T) {
	cases := []struct{ n, want int }{
		{1, 1}, {2, 2}, {3, 3}, {4, 4}, {5, 5}, {6, 6}, {7, 7}, {8, 1}, {14, 7}, {46341, 1}, {lastDay, 2},
	}
	for _, c := range cases {
		if got, err := day.Weekday(c.n); got != c.want || err != nil {
			t.Errorf("Weekday(%d): got %d, %v, want %d", c.n, got, err, c.want)
		}
	}
}

func TestLast(t *testing.T) {
	if got := day.Last(); got != lastDay {
		t.Errorf("Last(): got %d, want %d", got, lastDay)
	}
}

// TestEachDay holds every day of the calendar against the library's calendar.
func TestEachDay(t *testing.T) {
	at := time.Date(1900, 1, 1, 0, 0, 0, 0, time.UTC)
	for n := 1; n <= lastDay; n++ {
		want := api.Date{Year: at.Year(), Month: int(at.Month()), Day: at.Day()}
		if d, err := day.Date(n); d != want || err != nil {
			t.Fatalf("Date(%d): got %v, %v, want %v", n, d, err, want)
		}
		if got, err := day.Of(want); got != n || err != nil {
			t.Fatalf("Of(%v): got %d, %v, want %d", want, got, err, n)
		}
		wantWeekday := (int(at.Weekday())+6)%7 + 1
		if got, err := day.Weekday(n); got != wantWeekday || err != nil {
			t.Fatalf("Weekday(%d): got %d, %v, want %d", n, got, err, wantWeekday)
		}
		next := at.AddDate(0, 0, 1)
		if next.Month() != at.Month() {
			if got, err := day.Days(want.Year, want.Month); got != want.Day || err != nil {
				t.Fatalf("Days(%d, %d): got %d, %v, want %d", want.Year, want.Month, got, err, want.Day)
			}
		}
		at = next
	}
	if at.Year() != api.LastYear+1 || at.YearDay() != 1 {
		t.Errorf("behind the last day: got %v, want the first of %d", at, api.LastYear+1)
	}
}
