package seq

import (
	"iter"

	"chimework/api"
	"chimework/day"
	"chimework/period"
	"chimework/rule"
)

// between makes what goes over those of THE DAYS that are from one to another one, rising.
func between(r api.Rule, start, from, to int) (iter.Seq[int], error) {
	if err := rule.Check(r); err != nil {
		return nil, err
	}
	if start < 1 || start > day.Last() {
		return nil, api.ErrRange
	}
	if r.Until != 0 {
		to = min(to, r.Until)
	}
	return func(yield func(int) bool) {
		count := 0
		for n := range onFrom(r, start, passed(r, start, from), to) {
			if n > to || n >= from && !yield(n) {
				return
			}
			count++
			if count == r.Count {
				return
			}
		}
	}, nil
}

// onFrom goes over start itself, and then what is behind it in the periods from the k-th on.
func onFrom(r api.Rule, start, k, to int) iter.Seq[int] {
	return func(yield func(int) bool) {
		if !yield(start) {
			return
		}
		for n := range ofPeriods(r, start, k, to) {
			if n > start && !yield(n) {
				return
			}
		}
	}
}

// ofPeriods goes over the days of the periods from the k-th on, up to the last one that does not begin behind the day to.
func ofPeriods(r api.Rule, start, k, to int) iter.Seq[int] {
	return func(yield func(int) bool) {
		for ; ; k++ {
			// The rule and start are looked at by now: the error tells that the period begins behind the last day.
			begin, err := period.Begin(r, start, k)
			if err != nil || begin > to {
				return
			}
			days, err := period.Days(r, start, k)
			if err != nil {
				return
			}
			for _, n := range days {
				if !yield(n) {
					return
				}
			}
		}
	}
}

// passed tells how many periods may be passed over: so many end ahead of a day even if each of them is as long as can be.
func passed(r api.Rule, start, n int) int {
	// Where days are counted, those ahead count too.
	if r.Count != 0 || n <= start {
		return 0
	}
	return (n - start) / (r.Every * longest(r.Freq))
}

// longest period: how many days it has.
func longest(freq int) int {
	switch freq {
	case api.Weekly:
		return 7
	case api.Monthly:
		return 31
	case api.Yearly:
		return 366
	}
	return 1
}
