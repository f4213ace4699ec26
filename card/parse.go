package card

import (
	"iter"
	"strconv"
	"strings"

	"chimework/api"
	"chimework/clock"
	"chimework/event"
	"chimework/line"
	"chimework/rule"
)

// Parse an event.
func Parse(text string) (api.Event, int, error) {
	// How all lines are folded is asked ahead of what any of them says.
	for _, err := range wholeLines(text) {
		if err != nil {
			return api.Event{}, 0, err
		}
	}
	var r reading
	n, ok := r.takeAll(text)
	if !ok {
		return api.Event{}, n, api.ErrSyntax
	}
	if err := event.Check(r.event); err != nil {
		return api.Event{}, 0, err
	}
	return r.event, 0, nil
}

// wholeLines of a text, each with what Unfold says of its pieces.
func wholeLines(text string) iter.Seq2[string, error] {
	return func(yield func(string, error) bool) {
		var pieces []string
		for left := text; left != ""; {
			var piece string
			piece, left, _ = strings.Cut(left, lineEnd)
			if len(pieces) > 0 && !strings.HasPrefix(piece, goesOn) {
				if !yield(line.Unfold(pieces)) {
					return
				}
				pieces = nil
			}
			pieces = append(pieces, piece)
		}
		if len(pieces) > 0 {
			yield(line.Unfold(pieces))
		}
	}
}

// reading of an event: what is read of it, and the first of the kinds that may come next.
type reading struct {
	event api.Event
	next  int
}

// takeAll lines; if one cannot stand where it does, or lacks, it tells the number of it.
func (r *reading) takeAll(text string) (int, bool) {
	n := 0
	for whole := range wholeLines(text) {
		if !r.take(whole) {
			return n, false
		}
		n++
	}
	// That the last one does not end is told ahead of what lacks behind it.
	if n > 0 && !strings.HasSuffix(text, lineEnd) {
		return n - 1, false
	}
	return n, !r.lacks()
}

// take a line, if it can stand there.
func (r *reading) take(whole string) bool {
	key, value, err := line.Pair(whole)
	if err != nil {
		return false
	}
	place, ok := r.place(key)
	if !ok || !r.read(key, value) {
		return false
	}
	r.next = place
	if !kinds[place].many {
		r.next++
	}
	return true
}

// place of a key among the kinds, if it may come next.
func (r *reading) place(key string) (int, bool) {
	for i, k := range kinds {
		switch {
		case i < r.next:
			continue
		case k.key == key:
			return i, true
		case k.must:
			return 0, false
		}
	}
	return 0, false
}

// lacks tells whether one that must come has not come.
func (r *reading) lacks() bool {
	for i, k := range kinds {
		if i >= r.next && k.must {
			return true
		}
	}
	return false
}

// read a value, if it is one of its kind.
func (r *reading) read(key, value string) bool {
	var err error
	e := &r.event
	switch key {
	case nameKey:
		e.Name = value
	case textKey:
		e.Text, err = parseText(value)
	case startKey:
		e.Start, err = clock.Parse(value)
	case lengthKey:
		e.Length, err = clock.Span(value)
	case ruleKey:
		e.Repeats = true
		e.Rule, err = rule.Parse(value)
	case moreKey:
		e.More, err = with(e.More, value, clock.Parse)
	case notKey:
		e.Not, err = with(e.Not, value, clock.Parse)
	case moveKey:
		e.Changes, err = with(e.Changes, value, parseChange)
	case alarmKey:
		e.Alarms, err = with(e.Alarms, value, parseAlarm)
	}
	return err == nil
}

// with one item more.
func with[T any](list []T, value string, parse func(string) (T, error)) ([]T, error) {
	item, err := parse(value)
	if err != nil {
		return nil, err
	}
	return append(list, item), nil
}

// parseText takes no empty one, for it is not written.
func parseText(value string) (string, error) {
	if value == "" {
		return "", api.ErrSyntax
	}
	return line.Plain(value)
}

func parseChange(value string) (api.Change, error) {
	at, to, ok := strings.Cut(value, moveGap)
	if !ok {
		return api.Change{}, api.ErrSyntax
	}
	which, err := clock.Parse(at)
	if err != nil {
		return api.Change{}, err
	}
	if to == calledOff {
		return api.Change{At: which}, nil
	}
	when, err := clock.Parse(to)
	if err != nil {
		return api.Change{}, err
	}
	return api.Change{At: which, To: when}, nil
}

func parseAlarm(value string) (api.Alarm, error) {
	words := strings.Split(value, alarmGap)
	if len(words) != alarmWords || words[1] != fromStart && words[1] != fromEnd {
		return api.Alarm{}, api.ErrSyntax
	}
	offset, err := clock.Span(words[0])
	if err != nil {
		return api.Alarm{}, err
	}
	repeat, err := parseNumber(words[2])
	if err != nil {
		return api.Alarm{}, err
	}
	between, err := clock.Span(words[3])
	if err != nil {
		return api.Alarm{}, err
	}
	return api.Alarm{Offset: offset, End: words[1] == fromEnd, Repeat: repeat, Between: between}, nil
}

// parseNumber takes none that would be written otherwise: no needless 0, no sign but that of one below 0.
func parseNumber(word string) (int, error) {
	n, err := strconv.Atoi(word)
	if err != nil || strconv.Itoa(n) != word {
		return 0, api.ErrSyntax
	}
	return n, nil
}
