package desk

import (
	"slices"

	"chimework/alarm"
	"chimework/api"
	"chimework/clock"
)

// longestSnooze is how many minutes a ring may be snoozed.
const longestSnooze = 10_000

// tick on to a time: what rings till then is told.
func (d *Desk) tick(to int) ([]api.Ring, error) {
	if err := d.checkTick(to); err != nil {
		return nil, err
	}
	if d.now == 0 {
		d.now = to
		return nil, nil
	}
	told, err := d.due(to)
	if err != nil {
		return nil, err
	}
	// What is told is behind now, so it is behind all that has rung by Order, too.
	rung := slices.Concat(d.rung, told)
	// Those that are told are among them, so they are not asked by themselves whether they are too many.
	if len(rung) > api.MaxTimers {
		return nil, api.ErrFull
	}
	isDue := func(r api.Ring) bool { return r.At <= to }
	d.rung, d.snoozed, d.now = rung, slices.DeleteFunc(d.snoozed, isDue), to
	return told, nil
}

// checkTick tells what is wrong with a time to tick to.
func (d *Desk) checkTick(to int) error {
	switch {
	case !clock.IsTime(to):
		return api.ErrRange
	case to <= d.now:
		return api.ErrState
	case d.now != 0 && to-d.now > api.MaxSpan:
		return api.ErrRange
	}
	return nil
}

// due lists what rings behind now till a time, each once, by Order. None of it has rung already, for what has is not above now.
func (d *Desk) due(to int) ([]api.Ring, error) {
	isLater := func(r api.Ring) bool { return r.At > to }
	list := slices.DeleteFunc(slices.Clone(d.snoozed), isLater)
	for _, name := range d.Names() {
		rings, err := alarm.Till(d.zone, d.events[name], d.now+1, to)
		if err != nil {
			return nil, err
		}
		list = append(list, rings...)
	}
	slices.SortFunc(list, alarm.Order)
	return slices.Compact(list), nil
}

// done with a ring that has rung.
func (d *Desk) done(r api.Ring) error {
	place, there := find(d.rung, r)
	if !there {
		return api.ErrNone
	}
	d.rung = slices.Delete(d.rung, place, place+1)
	return nil
}

// snooze a ring that has rung, for so many minutes from now.
func (d *Desk) snooze(r api.Ring, minutes int) error {
	if minutes < 1 || minutes > longestSnooze || !clock.IsTime(d.now+minutes) {
		return api.ErrRange
	}
	if _, has := find(d.rung, r); !has {
		return api.ErrNone
	}
	later := r
	later.At = d.now + minutes
	place, there := find(d.snoozed, later)
	if there {
		return api.ErrClash
	}
	if len(d.snoozed) >= api.MaxTimers {
		return api.ErrFull
	}
	d.snoozed = slices.Insert(d.snoozed, place, later)
	return d.done(r)
}

// find tells where a ring is, or would be, in a list that is by Order, and whether it is there.
func find(list []api.Ring, r api.Ring) (int, bool) {
	return slices.BinarySearchFunc(list, r, alarm.Order)
}
