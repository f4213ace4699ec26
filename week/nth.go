package week

import (
	"chimework/api"
	"chimework/day"
)

// mostNth is how many days of one weekday a month has at most.
const mostNth = 5

// Nth weekday of a month.
func Nth(year, month int, w api.Nth) (int, error) {
	length, err := day.Days(year, month)
	if err != nil {
		return 0, err
	}
	if !isNth(w) {
		return 0, api.ErrRange
	}
	first, err := day.Of(api.Date{Year: year, Month: month, Day: 1})
	if err != nil {
		return 0, err
	}
	weekday, err := day.Weekday(first)
	if err != nil {
		return 0, err
	}
	ahead := (w.Weekday - weekday + weekDays) % weekDays
	count := (length-ahead-1)/weekDays + 1
	turn := w.N
	if turn < 0 {
		turn += count + 1
	}
	if turn < 1 || turn > count {
		return 0, api.ErrNone
	}
	return first + ahead + (turn-1)*weekDays, nil
}

func isNth(w api.Nth) bool {
	return w.Weekday >= 1 && w.Weekday <= weekDays && w.N != 0 && w.N >= -mostNth && w.N <= mostNth
}

// Which weekday a day is, from both ends of its month.
func Which(n int) (api.Nth, api.Nth, error) {
	d, err := day.Date(n)
	if err != nil {
		return api.Nth{}, api.Nth{}, err
	}
	weekday, err := day.Weekday(n)
	if err != nil {
		return api.Nth{}, api.Nth{}, err
	}
	length, err := day.Days(d.Year, d.Month)
	if err != nil {
		return api.Nth{}, api.Nth{}, err
	}
	before, behind := (d.Day-1)/weekDays, (length-d.Day)/weekDays
	return api.Nth{N: before + 1, Weekday: weekday}, api.Nth{N: -behind - 1, Weekday: weekday}, nil
}
