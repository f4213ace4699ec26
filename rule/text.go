package rule

import (
	"strconv"
	"strings"

	"chimework/api"
	"chimework/clock"
)

// Parts of a rule behind its first word, in the order in which they are written.
const (
	everyPart = iota
	countPart
	untilPart
	monthsPart
	daysPart
	onPart
	pickPart
	parts
)

var partWords = [parts]string{"every", "count", "until", "months", "days", "on", "pick"}

var freqWords = [api.Yearly]string{"daily", "weekly", "monthly", "yearly"}

var weekdayWords = [lastWeekday]string{"mo", "tu", "we", "th", "fr", "sa", "su"}

const (
	wordGap       = " "
	itemGap       = ","
	weekdayLength = 2
	farNumber     = 9999 // the greatest of four digits
)

// dayTail makes a time of a Date, for times are written and read by clock; 00:00 is no time of the first day.
const (
	dayTail   = " 00:01"
	dayMinute = 1
)

// Print a rule.
func Print(r api.Rule) (string, error) {
	if err := Check(r); err != nil {
		return "", err
	}
	until, err := printDay(r.Until)
	if err != nil {
		return "", err
	}
	text := freqWords[r.Freq-1]
	for part, value := range printParts(r, until) {
		if value != "" {
			text += wordGap + partWords[part] + wordGap + value
		}
	}
	return text, nil
}

// printParts leaves those empty that are not written.
func printParts(r api.Rule, until string) [parts]string {
	printUnless := func(n, usual int) string {
		if n == usual {
			return ""
		}
		return strconv.Itoa(n)
	}
	return [parts]string{
		everyPart:  printUnless(r.Every, 1),
		countPart:  printUnless(r.Count, 0),
		untilPart:  until,
		monthsPart: printList(r.Months, strconv.Itoa),
		daysPart:   printList(r.Days, strconv.Itoa),
		onPart:     printList(r.Weeks, printWeek),
		pickPart:   printList(r.Pick, strconv.Itoa),
	}
}

func printList[T any](list []T, write func(T) string) string {
	texts := make([]string, 0, len(list))
	for _, item := range list {
		texts = append(texts, write(item))
	}
	return strings.Join(texts, itemGap)
}

func printWeek(w api.Nth) string {
	if w.N == 0 {
		return weekdayWords[w.Weekday-1]
	}
	return strconv.Itoa(w.N) + weekdayWords[w.Weekday-1]
}

// printDay writes nothing of 0, which is no bound.
func printDay(n int) (string, error) {
	if n == 0 {
		return "", nil
	}
	text, err := clock.Print((n-1)*api.DayMinutes + dayMinute)
	if err != nil {
		return "", err
	}
	return strings.TrimSuffix(text, dayTail), nil
}

// Parse a rule.
func Parse(text string) (api.Rule, error) {
	r, ok := parseWords(strings.Split(text, wordGap))
	if !ok {
		return api.Rule{}, api.ErrSyntax
	}
	if err := Check(r); err != nil {
		return api.Rule{}, err
	}
	return r, nil
}

// parseWords takes each part once and in order, so that what is out of order, or comes twice, is left over.
func parseWords(words []string) (api.Rule, bool) {
	freq, ok := parseFreq(words[0])
	if !ok {
		return api.Rule{}, false
	}
	r, left := api.Rule{Freq: freq, Every: 1}, words[1:]
	for part, word := range partWords {
		if len(left) < 2 || left[0] != word {
			continue
		}
		if !parsePart(&r, part, left[1]) {
			return api.Rule{}, false
		}
		left = left[2:]
	}
	return r, len(left) == 0
}

// parsePart takes no number that Print would leave out.
func parsePart(r *api.Rule, part int, value string) bool {
	var ok bool
	switch part {
	case everyPart:
		r.Every, ok = parseNumber(value)
		return ok && r.Every != 1
	case countPart:
		r.Count, ok = parseNumber(value)
		return ok && r.Count != 0
	case untilPart:
		r.Until, ok = parseDay(value)
	case monthsPart:
		r.Months, ok = parseList(value, parseNumber)
	case daysPart:
		r.Days, ok = parseList(value, parseNumber)
	case onPart:
		r.Weeks, ok = parseList(value, parseWeek)
	case pickPart:
		r.Pick, ok = parseList(value, parseNumber)
	}
	return ok
}

func parseList[T any](text string, read func(string) (T, bool)) ([]T, bool) {
	var list []T
	for _, piece := range strings.Split(text, itemGap) {
		item, ok := read(piece)
		if !ok {
			return nil, false
		}
		list = append(list, item)
	}
	return list, true
}

// parseNumber holds the number, written again, against the text: so no sign or 0 is needless.
func parseNumber(text string) (int, bool) {
	n, err := strconv.Atoi(text)
	if err != nil || n < -farNumber || n > farNumber || strconv.Itoa(n) != text {
		return 0, false
	}
	return n, true
}

func parseWeek(text string) (api.Nth, bool) {
	if len(text) < weekdayLength {
		return api.Nth{}, false
	}
	ahead := len(text) - weekdayLength
	weekday, ok := parseWeekday(text[ahead:])
	if !ok || ahead == 0 {
		return api.Nth{Weekday: weekday}, ok
	}
	n, ok := parseNumber(text[:ahead])
	return api.Nth{N: n, Weekday: weekday}, ok && n != 0
}

func parseFreq(word string) (int, bool) {
	for i, w := range freqWords {
		if w == word {
			return i + 1, true
		}
	}
	return 0, false
}

func parseWeekday(word string) (int, bool) {
	for i, w := range weekdayWords {
		if w == word {
			return i + 1, true
		}
	}
	return 0, false
}

func parseDay(text string) (int, bool) {
	t, err := clock.Parse(text + dayTail)
	if err != nil {
		return 0, false
	}
	n, _, err := clock.Split(t)
	return n, err == nil
}
