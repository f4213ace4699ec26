package clock

import (
	"strconv"

	"chimework/api"
	"chimework/day"
)

// form of a time that is written: each 0 stands for a digit, all else for itself.
const form = "0000-00-00 00:00"

const (
	hourMinutes = 60
	dayHours    = 24
)

// Print a time.
func Print(t int) (string, error) {
	n, minute, err := Split(t)
	if err != nil {
		return "", err
	}
	d, err := day.Date(n)
	if err != nil {
		return "", err
	}
	// A year of the calendar has four digits as it is.
	date := strconv.Itoa(d.Year) + "-" + twoDigits(d.Month) + "-" + twoDigits(d.Day)
	return date + " " + twoDigits(minute/hourMinutes) + ":" + twoDigits(minute%hourMinutes), nil
}

// Parse a time.
func Parse(text string) (int, error) {
	if !hasForm(text) {
		return 0, api.ErrSyntax
	}
	d := api.Date{Year: number(text[0:4]), Month: number(text[5:7]), Day: number(text[8:10])}
	hour, minute := number(text[11:13]), number(text[14:16])
	// An hour that is none makes no minute of the day, which Time tells; minutes that are too many may make one.
	if minute >= hourMinutes {
		return 0, api.ErrRange
	}
	return Time(d, hour*hourMinutes+minute)
}

func hasForm(text string) bool {
	if len(text) != len(form) {
		return false
	}
	for i := range len(form) {
		if form[i] == '0' && !isDigit(text[i]) || form[i] != '0' && text[i] != form[i] {
			return false
		}
	}
	return true
}

// twoDigits of a number below 100.
func twoDigits(n int) string {
	if n < 10 {
		return "0" + strconv.Itoa(n)
	}
	return strconv.Itoa(n)
}

// number of digits that callers have looked at: there are nine at most.
func number(digits string) int {
	n := 0
	for i := range len(digits) {
		n = n*10 + int(digits[i]-'0')
	}
	return n
}

func isDigit(c byte) bool { return c >= '0' && c <= '9' }
