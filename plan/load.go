package plan

import (
	"chimework/api"
	"chimework/day"
	"chimework/event"
)

// Load of each day of a month.
func Load(l []api.Event, year, month int) ([]int, error) {
	many, err := day.Days(year, month)
	if err != nil {
		return nil, err
	}
	if len(l) > api.MaxEvents {
		return nil, api.ErrFull
	}
	first, err := day.Of(api.Date{Year: year, Month: month, Day: 1})
	if err != nil {
		return nil, err
	}
	begin := (first - 1) * api.DayMinutes
	load := make([]int, many)
	count := func(t int) { load[(t-begin)/api.DayMinutes]++ }
	for _, e := range l {
		// Local bounds how many there may be; a month has all of them, also those that were moved into it.
		list, err := event.Real(e, begin, begin+many*api.DayMinutes-1)
		if err != nil {
			return nil, err
		}
		for _, c := range list {
			count(c.To)
		}
	}
	return load, nil
}
