package card

import (
	"iter"
	"strconv"
	"strings"

	"chimework/api"
	"chimework/clock"
	"chimework/event"
	"chimework/line"
	"chimework/rule"
)

// Print an event.
func Print(e api.Event) (string, error) {
	if err := event.Check(e); err != nil {
		return "", err
	}
	var text strings.Builder
	for key, value := range linesOf(e) {
		for _, piece := range line.Fold(key + keyEnd + value) {
			text.WriteString(piece)
			text.WriteString(lineEnd)
		}
	}
	return text.String(), nil
}

// linesOf an event that Check has taken: the key and the value of each.
func linesOf(e api.Event) iter.Seq2[string, string] {
	return func(yield func(string, string) bool) {
		for _, k := range kinds {
			for _, value := range valuesOf(e, k.key) {
				if !yield(k.key, value) {
					return
				}
			}
		}
	}
}

// valuesOf the lines of one kind.
func valuesOf(e api.Event, key string) []string {
	switch key {
	case nameKey:
		return []string{e.Name}
	case textKey:
		if e.Text != "" {
			return []string{line.Escape(e.Text)}
		}
	case startKey:
		return []string{printTime(e.Start)}
	case lengthKey:
		return []string{printSpan(e.Length)}
	case ruleKey:
		if e.Repeats {
			return []string{printRule(e.Rule)}
		}
	case moreKey:
		return each(e.More, printTime)
	case notKey:
		return each(e.Not, printTime)
	case moveKey:
		return each(e.Changes, printChange)
	case alarmKey:
		return each(e.Alarms, printAlarm)
	}
	return nil
}

func each[T any](list []T, write func(T) string) []string {
	texts := make([]string, 0, len(list))
	for _, item := range list {
		texts = append(texts, write(item))
	}
	return texts
}

// printTime has no error to tell, nor have those below: all that an event has was asked by Check.
func printTime(t int) string {
	text, _ := clock.Print(t)
	return text
}

func printSpan(n int) string {
	text, _ := clock.PrintSpan(n)
	return text
}

func printRule(r api.Rule) string {
	text, _ := rule.Print(r)
	return text
}

func printChange(c api.Change) string {
	if c.To == 0 {
		return printTime(c.At) + moveGap + calledOff
	}
	return printTime(c.At) + moveGap + printTime(c.To)
}

func printAlarm(a api.Alarm) string {
	from := fromStart
	if a.End {
		from = fromEnd
	}
	return strings.Join([]string{printSpan(a.Offset), from, strconv.Itoa(a.Repeat), printSpan(a.Between)}, alarmGap)
}
