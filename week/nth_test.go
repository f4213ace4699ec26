package week_test

import (
	"math"
	"testing"
	"time"

	"chimework/api"
	"chimework/week"
)

func TestNth(t *testing.T) {
	cases := []struct {
		year, month, n, weekday int
		want                    int
	}{
		{1900, 1, 1, 1, 1},
		{1900, 1, -5, 1, 1},
		{1900, 1, 5, 3, 31},
		{1900, 1, -1, 3, 31},
		{2199, 12, 5, 2, lastDay},
		{2199, 12, -1, 2, lastDay},
		{2199, 12, -5, 2, lastDay - 28},
		// 28 days, the first a Sunday: four of each.
		{2026, 2, 1, 7, number(2026, 2, 1)},
		{2026, 2, 4, 7, number(2026, 2, 22)},
		{2026, 2, 4, 6, number(2026, 2, 28)},
		{2026, 2, -1, 6, number(2026, 2, 28)},
		{2026, 2, -4, 7, number(2026, 2, 1)},
		// 29 days, the first a Thursday: five Thursdays.
		{2024, 2, 1, 4, number(2024, 2, 1)},
		{2024, 2, 5, 4, number(2024, 2, 29)},
		{2024, 2, -1, 4, number(2024, 2, 29)},
		{2024, 2, -5, 4, number(2024, 2, 1)},
		{2024, 2, 4, 3, number(2024, 2, 28)},
		{2024, 2, -4, 3, number(2024, 2, 7)},
		// 30 days, the first a Sunday: five Sundays and Mondays.
		{2026, 11, 3, 1, number(2026, 11, 16)},
		{2026, 11, -3, 1, number(2026, 11, 16)},
		{2026, 11, 5, 1, number(2026, 11, 30)},
		{2026, 11, -5, 7, number(2026, 11, 1)},
		{2026, 11, 4, 2, number(2026, 11, 24)},
		{2026, 11, -1, 2, number(2026, 11, 24)},
		// 31 days, the first a Tuesday: five Tuesdays, Wednesdays and Thursdays.
		{2026, 12, 5, 2, number(2026, 12, 29)},
		{2026, 12, 5, 4, number(2026, 12, 31)},
		{2026, 12, -1, 4, number(2026, 12, 31)},
		{2026, 12, -4, 5, number(2026, 12, 4)},
	}
	for _, c := range cases {
		got, err := week.Nth(c.year, c.month, api.Nth{N: c.n, Weekday: c.weekday})
		if got != c.want || err != nil {
			t.Errorf("Nth(%v): got %d, %v", c, got, err)
		}
	}
}

func TestNthThatThereIsNot(t *testing.T) {
	cases := []struct{ year, month, n, weekday int }{
		{2026, 2, 5, 7}, {2026, 2, -5, 7}, {2026, 2, 5, 6}, {2026, 2, -5, 6},
		{2024, 2, 5, 5}, {2024, 2, -5, 5}, {2024, 2, 5, 3}, {2024, 2, -5, 3},
		{2026, 11, 5, 2}, {2026, 11, -5, 2}, {2026, 11, 5, 6}, {2026, 11, -5, 6},
		{2026, 12, 5, 5}, {2026, 12, -5, 5}, {2026, 12, 5, 1}, {2026, 12, -5, 1},
		{1900, 1, -5, 7}, {1900, 1, 5, 4}, {2199, 12, 5, 3}, {2199, 12, -5, 6},
	}
	for _, c := range cases {
		got, err := week.Nth(c.year, c.month, api.Nth{N: c.n, Weekday: c.weekday})
		if got != 0 {
			t.Errorf("Nth(%v): got %d beside an error", c, got)
		}
		wantError(t, "Nth", c, err, api.ErrNone)
	}
}

// suchDays of a month of the library's calendar, one by one.
func suchDays(year, month, weekday int) []int {
	var list []int
	for d := 1; d <= 31; d++ {
		m := time.Date(year, time.Month(month), d, 0, 0, 0, 0, time.UTC)
		if int(m.Month()) == month && m.Weekday() == time.Weekday(weekday%7) {
			list = append(list, number(year, month, d))
		}
	}
	return list
}

func TestNthOfEachMonth(t *testing.T) {
	for year := firstYear; year <= lastYear; year++ {
		for month := 1; month <= 12; month++ {
			for weekday := 1; weekday <= 7; weekday++ {
				nthOfMonth(t, year, month, weekday)
			}
		}
	}
}

func nthOfMonth(t *testing.T, year, month, weekday int) {
	list := suchDays(year, month, weekday)
	for n := 1; n <= 5; n++ {
		want, back, wantErr := 0, 0, error(api.ErrNone)
		if n <= len(list) {
			want, back, wantErr = list[n-1], list[len(list)-n], nil
		}
		if got, err := week.Nth(year, month, api.Nth{N: n, Weekday: weekday}); got != want || err != wantErr {
			t.Fatalf("Nth(%d, %d, {%d %d}): got %d, %v, want %d, %v", year, month, n, weekday, got, err, want, wantErr)
		}
		if got, err := week.Nth(year, month, api.Nth{N: -n, Weekday: weekday}); got != back || err != wantErr {
			t.Fatalf("Nth(%d, %d, {%d %d}): got %d, %v, want %d, %v", year, month, -n, weekday, got, err, back, wantErr)
		}
	}
}

// ErrRange is named ahead of ErrNone: a fifth Sunday that there is not is asked for beside each of the wrong numbers.
func TestNthOfNone(t *testing.T) {
	type ask struct {
		year, month int
		nth         api.Nth
	}
	none := api.Nth{N: 5, Weekday: 7}
	var cases []ask
	for _, year := range noYears {
		cases = append(cases, ask{year, 1, api.Nth{N: 1, Weekday: 1}}, ask{year, 2, none})
	}
	for _, k := range []int{math.MinInt, math.MinInt / 2, -13, -12, -1, 0, 13, 14, 24, math.MaxInt / 2, math.MaxInt} {
		cases = append(cases, ask{2026, k, api.Nth{N: 1, Weekday: 1}}, ask{2026, k, none})
	}
	for _, k := range []int{math.MinInt, math.MinInt / 2, -8, -7, -1, 0, 8, 14, math.MaxInt / 2, math.MaxInt - 1, math.MaxInt} {
		for _, n := range []int{1, 5, -1, -5} {
			cases = append(cases, ask{2026, 2, api.Nth{N: n, Weekday: k}}, ask{2026, 11, api.Nth{N: n, Weekday: k}})
		}
	}
	for _, k := range []int{math.MinInt, math.MinInt + 1, math.MinInt / 7, -7, -6, 0, 6, 7, math.MaxInt / 7, math.MaxInt - 1, math.MaxInt} {
		for weekday := 0; weekday <= 8; weekday++ {
			cases = append(cases, ask{2026, 2, api.Nth{N: k, Weekday: weekday}}, ask{2026, 11, api.Nth{N: k, Weekday: weekday}})
		}
	}
	for _, c := range cases {
		got, err := week.Nth(c.year, c.month, c.nth)
		if got != 0 {
			t.Errorf("Nth(%v): got %d beside an error", c, got)
		}
		wantError(t, "Nth", c, err, api.ErrRange)
	}
}

func TestWhich(t *testing.T) {
	cases := []struct {
		n, first, last, weekday int
	}{
		{1, 1, -5, 1},
		{3, 1, -5, 3},
		{4, 1, -4, 4},
		{31, 5, -1, 3},
		{32, 1, -4, 4},
		{number(2026, 2, 1), 1, -4, 7},
		{number(2026, 2, 28), 4, -1, 6},
		{number(2024, 2, 1), 1, -5, 4},
		{number(2024, 2, 2), 1, -4, 5},
		{number(2024, 2, 29), 5, -1, 4},
		{number(2026, 11, 7), 1, -4, 6},
		{number(2026, 11, 8), 2, -4, 7},
		{number(2026, 11, 16), 3, -3, 1},
		{number(2026, 11, 28), 4, -1, 6},
		{number(2026, 11, 29), 5, -1, 7},
		{lastDay, 5, -1, 2},
	}
	for _, c := range cases {
		first, last, err := week.Which(c.n)
		if first != (api.Nth{N: c.first, Weekday: c.weekday}) || last != (api.Nth{N: c.last, Weekday: c.weekday}) || err != nil {
			t.Errorf("Which(%v): got %v, %v, %v", c, first, last, err)
		}
	}
}

// stepsToEdge counts the weeks that may be gone, by 7 days or by -7, within the month.
func stepsToEdge(n, step int) int {
	count := 0
	for m := n + step; moment(m).Month() == moment(n).Month(); m += step {
		count++
	}
	return count
}

func TestWhichOfEachDay(t *testing.T) {
	for n := 1; n <= lastDay; n++ {
		weekday := (int(moment(n).Weekday())+6)%7 + 1
		wantFirst := api.Nth{N: stepsToEdge(n, -7) + 1, Weekday: weekday}
		wantLast := api.Nth{N: -stepsToEdge(n, 7) - 1, Weekday: weekday}
		first, last, err := week.Which(n)
		if first != wantFirst || last != wantLast || err != nil {
			t.Fatalf("Which(%d): got %v, %v, %v, want %v, %v", n, first, last, err, wantFirst, wantLast)
		}
	}
}

// A day is told by Nth of what Which says of it, from both ends.
func TestWhichAndBack(t *testing.T) {
	for n := 1; n <= lastDay; n++ {
		first, last, _ := week.Which(n)
		year, month, _ := moment(n).Date()
		for _, w := range []api.Nth{first, last} {
			if got, err := week.Nth(year, int(month), w); got != n || err != nil {
				t.Fatalf("Nth(%d, %d, %v): got %d, %v, want %d", year, month, w, got, err, n)
			}
		}
	}
}

func TestWhichOfNoDay(t *testing.T) {
	for _, n := range noDays {
		first, last, err := week.Which(n)
		if first != (api.Nth{}) || last != (api.Nth{}) {
			t.Errorf("Which(%d): got %v, %v beside an error", n, first, last)
		}
		wantError(t, "Which", n, err, api.ErrRange)
	}
}
