package event

import (
	"slices"

	"chimework/api"
	"chimework/clock"
)

// Real lists the TIMES that really are, in the zone of the event, from one number to another one, however many they are: At is the time itself, To when it really is. Those that stay come first, then those that are moved; both rise by At.
func Real(e api.Event, from, to int) ([]api.Change, error) {
	if err := Check(e); err != nil {
		return nil, err
	}
	// What is ahead of the first time or behind the last one is on no day.
	from, to = max(from, 1), min(to, clock.Last())
	list, err := staying(e, from, to)
	if err != nil {
		return nil, err
	}
	moved, err := movedInto(e, from, to)
	if err != nil {
		return nil, err
	}
	return append(list, moved...), nil
}

// staying lists the TIMES of a stretch that have no Change.
func staying(e api.Event, from, to int) ([]api.Change, error) {
	times, err := between(e, from, to)
	if err != nil {
		return nil, err
	}
	var list []api.Change
	for _, t := range times {
		if _, changed := changeOf(e, t); !changed {
			list = append(list, api.Change{At: t, To: t})
		}
	}
	return list, nil
}

// movedInto lists the Changes that move one of the TIMES, wherever it is, into a stretch of times.
func movedInto(e api.Event, from, to int) ([]api.Change, error) {
	isAway := func(c api.Change) bool { return !isFrom(from, c.To, to) }
	list := slices.DeleteFunc(slices.Clone(e.Changes), isAway)
	if len(list) == 0 {
		return nil, nil
	}
	isOne, err := asker(e, list[0].At, list[len(list)-1].At)
	if err != nil {
		return nil, err
	}
	return slices.DeleteFunc(list, func(c api.Change) bool { return !isOne(c.At) }), nil
}

// asker makes the question whether what is from one time to another one is one of the TIMES.
func asker(e api.Event, from, to int) (func(int) bool, error) {
	// Days that are counted are gone over from Start on at each look, so one look is taken for all questions: there are few of them. Others may be many, but are found where they are.
	if e.Rule.Count == 0 {
		return func(t int) bool {
			found, err := between(e, t, t)
			return err == nil && len(found) > 0
		}, nil
	}
	times, err := between(e, from, to)
	if err != nil {
		return nil, err
	}
	return func(t int) bool {
		_, found := slices.BinarySearch(times, t)
		return found
	}, nil
}
