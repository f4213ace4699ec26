package event

import (
	"slices"

	"chimework/api"
	"chimework/clock"
	"chimework/seq"
)

// Local times.
func Local(e api.Event, from, to int) ([]int, error) {
	if err := Check(e); err != nil {
		return nil, err
	}
	// Both are times once the difference is asked, so it fits into an int.
	if !clock.IsTime(from) || !clock.IsTime(to) || from > to || to-from > api.MaxSpan {
		return nil, api.ErrRange
	}
	list, err := between(e, from, to)
	if err != nil {
		return nil, err
	}
	if len(list) > api.MaxCount {
		return nil, api.ErrFull
	}
	return list, nil
}

// Days of times.
func Days(e api.Event, from, to int) ([]int, error) {
	list, err := Local(e, from, to)
	if err != nil {
		return nil, err
	}
	for i, t := range list {
		list[i] = dayOf(t)
	}
	return slices.Compact(list), nil
}

// Moved time.
func Moved(e api.Event, which int) (int, bool, error) {
	if err := Check(e); err != nil {
		return 0, false, err
	}
	list, err := between(e, which, which)
	if err != nil {
		return 0, false, err
	}
	if len(list) == 0 {
		return 0, false, api.ErrNone
	}
	c, changed := changeOf(e, which)
	if !changed {
		return which, false, nil
	}
	return c.To, c.To == 0, nil
}

// changeOf a time, if it has one.
func changeOf(e api.Event, which int) (api.Change, bool) {
	isIts := func(c api.Change) bool { return c.At == which }
	i := slices.IndexFunc(e.Changes, isIts)
	if i < 0 {
		return api.Change{}, false
	}
	return e.Changes[i], true
}

// between lists the TIMES that are from one to another one, rising, of an event of which Check tells nothing.
func between(e api.Event, from, to int) ([]int, error) {
	list, err := ofStart(e, from, to)
	if err != nil {
		return nil, err
	}
	isOut := func(t int) bool {
		_, not := slices.BinarySearch(e.Not, t)
		return not || !isFrom(from, t, to)
	}
	list = slices.DeleteFunc(append(list, e.More...), isOut)
	slices.Sort(list)
	return slices.Compact(list), nil
}

// ofStart lists Start or, if the event repeats, the times of its minute on the days on which the stretch lies.
func ofStart(e api.Event, from, to int) ([]int, error) {
	if !e.Repeats {
		return []int{e.Start}, nil
	}
	first := dayOf(e.Start)
	list, err := seq.All(e.Rule, first, dayOf(from), dayOf(to))
	if err != nil {
		return nil, err
	}
	for i, n := range list {
		list[i] = e.Start + (n-first)*api.DayMinutes
	}
	return list, nil
}

// dayOf a time; of what is none it is 0, on which nothing is.
func dayOf(t int) int {
	n, _, err := clock.Split(t)
	if err != nil {
		return 0
	}
	return n
}
