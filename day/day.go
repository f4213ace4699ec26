// Package day has days by number.
package day

import (
	"chimework/api"
)

const (
	yearDays = 365
	weekDays = 7
	months   = 12
)

// monthDays are those of a year that is not leap.
var monthDays = [months]int{31, 28, 31, 30, 31, 30, 31, 31, 30, 31, 30, 31}

// Leap tells whether a year has 366 days.
func Leap(year int) bool {
	return year%4 == 0 && year%100 != 0 || year%400 == 0
}

// Days of a month.
func Days(year, month int) (int, error) {
	if year < api.FirstYear || year > api.LastYear || month < 1 || month > months {
		return 0, api.ErrRange
	}
	return monthLength(year, month), nil
}

// Of a date.
func Of(d api.Date) (int, error) {
	length, err := Days(d.Year, d.Month)
	if err != nil {
		return 0, err
	}
	if d.Day < 1 || d.Day > length {
		return 0, api.ErrRange
	}
	n := beforeYear(d.Year) + d.Day
	for month := 1; month < d.Month; month++ {
		n += monthLength(d.Year, month)
	}
	return n, nil
}

// Last day.
func Last() int { return beforeYear(api.LastYear + 1) }

// Date of a day.
func Date(n int) (api.Date, error) {
	if !isDay(n) {
		return api.Date{}, api.ErrRange
	}
	year := yearOf(n)
	month, left := 1, n-beforeYear(year)
	for left > monthLength(year, month) {
		left -= monthLength(year, month)
		month++
	}
	return api.Date{Year: year, Month: month, Day: left}, nil
}

// Weekday of a day.
func Weekday(n int) (int, error) {
	if !isDay(n) {
		return 0, api.ErrRange
	}
	return (n-1)%weekDays + 1, nil
}

func isDay(n int) bool { return n >= 1 && n <= Last() }

// monthLength asks for a month that there is: callers have looked at it.
func monthLength(year, month int) int {
	if month == 2 && Leap(year) {
		return monthDays[1] + 1
	}
	return monthDays[month-1]
}

// beforeYear counts the days ahead of a year's first one.
func beforeYear(year int) int {
	leaps := leapsTo(year-1) - leapsTo(api.FirstYear-1)
	return (year-api.FirstYear)*yearDays + leaps
}

// leapsTo counts the leap years from 1 to a year.
func leapsTo(year int) int { return year/4 - year/100 + year/400 }

// yearOf begins as if each year were leap: so the guess is never too late, and few years are left to go.
func yearOf(n int) int {
	year := api.FirstYear + (n-1)/(yearDays+1)
	for n > beforeYear(year+1) {
		year++
	}
	return year
}
