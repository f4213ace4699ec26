package period

import (
	"slices"

	"chimework/api"
	"chimework/day"
	"chimework/week"
)

// place of a day in the calendar: what a rule may ask of it.
type place struct {
	date        api.Date
	monthDays   int
	first, last api.Nth // which weekday of its month it is, from both ends
}

// Days of a period.
func Days(r api.Rule, start, k int) ([]int, error) {
	first, last, err := ends(r, start, k)
	if err != nil {
		return nil, err
	}
	at, err := placeOf(start)
	if err != nil {
		return nil, err
	}
	asks := asked(completed(r, at))
	var days []int
	for n := first; n <= last; n++ {
		p, err := placeOf(n)
		if err != nil {
			return nil, err
		}
		if asks(p) {
			days = append(days, n)
		}
	}
	return picked(days, r.Pick), nil
}

func placeOf(n int) (place, error) {
	date, err := day.Date(n)
	if err != nil {
		return place{}, err
	}
	length, err := day.Days(date.Year, date.Month)
	if err != nil {
		return place{}, err
	}
	first, last, err := week.Which(n)
	if err != nil {
		return place{}, err
	}
	return place{date: date, monthDays: length, first: first, last: last}, nil
}

// completed writes out what a rule leaves to the place of start.
func completed(r api.Rule, start place) api.Rule {
	if len(r.Days) > 0 || len(r.Weeks) > 0 {
		return r
	}
	switch r.Freq {
	case api.Weekly:
		r.Weeks = []api.Nth{{Weekday: start.first.Weekday}}
	case api.Monthly:
		r.Days = []int{start.date.Day}
	case api.Yearly:
		r.Days = []int{start.date.Day}
		if len(r.Months) == 0 {
			r.Months = []int{start.date.Month}
		}
	}
	return r
}

// asked makes the question whether a day is one that a completed rule asks for.
func asked(r api.Rule) func(place) bool {
	inMonths := func(p place) bool {
		return len(r.Months) == 0 || slices.Contains(r.Months, p.date.Month)
	}
	onDays := func(p place) bool {
		return len(r.Days) == 0 || names(r.Days, p.date.Day, p.monthDays)
	}
	onWeeks := func(p place) bool {
		each := api.Nth{Weekday: p.first.Weekday}
		fits := func(w api.Nth) bool { return w == each || w == p.first || w == p.last }
		return len(r.Weeks) == 0 || slices.ContainsFunc(r.Weeks, fits)
	}
	return func(p place) bool { return inMonths(p) && onDays(p) && onWeeks(p) }
}

// picked keeps the days that stand where pick says, if it says anything.
func picked(days, pick []int) []int {
	if len(pick) == 0 {
		return days
	}
	var kept []int
	for i, n := range days {
		if names(pick, i+1, len(days)) {
			kept = append(kept, n)
		}
	}
	return kept
}

// names tells whether a list has the n-th of so many, counted from the beginning or, below 0, from the end.
func names(list []int, n, count int) bool {
	return slices.Contains(list, n) || slices.Contains(list, n-count-1)
}
