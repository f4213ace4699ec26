package clock

import (
	"strconv"
	"strings"

	"chimework/api"
)

// noSpan is the one text in which a part is 0.
const noSpan = "0m"

// mostDigits of a number in a span, and the greatest that has so many.
const (
	mostDigits = 9
	mostDays   = 999_999_999
)

// unit of a span: its letter, its minutes, and how many of it a text may tell.
type unit struct {
	letter        byte
	minutes, most int
}

// units stand in the order in which a span is written.
var units = [3]unit{
	{'d', api.DayMinutes, mostDays},
	{'h', hourMinutes, dayHours - 1},
	{'m', 1, hourMinutes - 1},
}

// PrintSpan of minutes.
func PrintSpan(n int) (string, error) {
	if n < -api.MaxSpan || n > api.MaxSpan {
		return "", api.ErrRange
	}
	if n == 0 {
		return noSpan, nil
	}
	text := ""
	if n < 0 {
		text, n = "-", -n
	}
	for _, u := range units {
		if many := n / u.minutes; many > 0 {
			text += strconv.Itoa(many) + string(u.letter)
		}
		n %= u.minutes
	}
	return text, nil
}

// Span of a text.
func Span(text string) (int, error) {
	if text == noSpan {
		return 0, nil
	}
	parts, below := strings.CutPrefix(text, "-")
	n, ok := sumParts(parts)
	if !ok {
		return 0, api.ErrSyntax
	}
	if n > api.MaxSpan {
		return 0, api.ErrRange
	}
	if below {
		return -n, nil
	}
	return n, nil
}

// sumParts takes each unit once and in order, so that what is out of order, or comes twice, is left over.
func sumParts(text string) (int, bool) {
	sum := 0
	for _, u := range units {
		many, length := part(text, u)
		sum += many * u.minutes
		text = text[length:]
	}
	return sum, sum > 0 && text == ""
}

// part of a unit that a text begins with, and its length: 0 and 0 if it begins with none.
func part(text string, u unit) (int, int) {
	digits := 0
	for digits < len(text) && isDigit(text[digits]) {
		digits++
	}
	if digits == 0 || digits > mostDigits || text[0] == '0' {
		return 0, 0
	}
	many := number(text[:digits])
	if digits == len(text) || text[digits] != u.letter || many > u.most {
		return 0, 0
	}
	return many, digits + 1
}
