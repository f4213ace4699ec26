package desk_test

import (
	"slices"
	"testing"

	"chimework/api"
	"chimework/event"
	"chimework/plain"
	"chimework/zone"
)

// shelf says D1 and D2, word by word. All rings of an event, from the first time to the last one, are there once it is put; what has rung and what is snoozed stand as they came.
type shelf struct {
	events        []entry
	now           int
	rung, snoozed []api.Ring
}

// entry is an event, and all that it ever rings.
type entry struct {
	event api.Event
	rings []api.Ring
}

// entryOf an event, by the chapters 7 and 8 alone; what is wrong rings never.
func entryOf(t *testing.T, z api.Zone, e api.Event) entry {
	t.Helper()
	if event.Check(e) != nil {
		return entry{event: e}
	}
	list := entry{event: e}
	for _, which := range allLocal(t, e) {
		there, off, err := event.Moved(e, which)
		if err != nil {
			t.Fatalf("Moved(%+v, %d): %v", e, which, err)
		}
		from, err := zone.World(z, there)
		if off || err != nil || from+e.Length > lastTime {
			continue
		}
		for number, a := range e.Alarms {
			at := from + a.Offset
			if a.End {
				at += e.Length
			}
			for turn := range a.Repeat + 1 {
				if isTime(at) {
					list.rings = append(list.rings, api.Ring{At: at, Name: e.Name, Which: which, Alarm: number, Turn: turn})
				}
				at += a.Between
			}
		}
	}
	return list
}

func isTime(n int) bool { return n >= 1 && n <= lastTime }

// allLocal lists all times of an event whose rule has an end; it is cut where there would be too many for one call.
func allLocal(t *testing.T, e api.Event) []int {
	t.Helper()
	last := e.Start
	if e.Repeats {
		last = min(e.Rule.Until*dayLong, lastTime)
	}
	ends := append([]int{e.Start, last}, e.More...)
	from, to := slices.Min(ends), slices.Max(ends)
	var list []int
	for from <= to {
		end := min(from+mostSpan, to)
		some, err := event.Local(e, from, end)
		for plain.Told(err) == api.ErrFull {
			end = from + (end-from)/2
			some, err = event.Local(e, from, end)
		}
		if err != nil {
			t.Fatalf("Local(%+v, %d, %d): %v", e, from, end, err)
		}
		list = append(list, some...)
		from = end + 1
	}
	return list
}

// do what is asked; of a Put the entry of its event stands beside it.
func (s *shelf) do(a api.Ask, e entry) ([]api.Ring, api.Errno) {
	switch a.What {
	case api.Put:
		return nil, s.put(e)
	case api.Drop:
		return nil, s.drop(a.Name)
	case api.Tick:
		return s.tick(a.N)
	case api.Done:
		return nil, s.done(a.Ring)
	case api.Snooze:
		return nil, s.snooze(a.Ring, a.N)
	}
	return nil, api.ErrRange
}

// others are the entries but that of a name.
func (s *shelf) others(name string) []entry {
	return slices.DeleteFunc(slices.Clone(s.events), func(e entry) bool { return e.event.Name == name })
}

func (s *shelf) put(e entry) api.Errno {
	if told := plain.Told(event.Check(e.event)); told != api.OK {
		return told
	}
	others := s.others(e.event.Name)
	if len(others) >= mostEvents {
		return api.ErrFull
	}
	s.events = append(others, e)
	s.rung, s.snoozed = kept(s.rung, e.event.Name), kept(s.snoozed, e.event.Name)
	return api.OK
}

func (s *shelf) drop(name string) api.Errno {
	others := s.others(name)
	if len(others) == len(s.events) {
		return api.ErrNone
	}
	s.events = others
	s.rung, s.snoozed = kept(s.rung, name), kept(s.snoozed, name)
	return api.OK
}

func (s *shelf) tick(n int) ([]api.Ring, api.Errno) {
	switch {
	case !isTime(n):
		return nil, api.ErrRange
	case n <= s.now:
		return nil, api.ErrState
	case s.now == 0:
		s.now = n
		return nil, api.OK
	case n-s.now > mostSpan:
		return nil, api.ErrRange
	}
	told, isFull := map[api.Ring]int{}, false
	tell := func(list []api.Ring, least int) {
		many := 0
		for _, r := range list {
			if r.At >= least && r.At <= n {
				many++
				if !slices.Contains(s.rung, r) {
					told[r]++
				}
			}
		}
		isFull = isFull || many > mostRings
	}
	for _, e := range s.events {
		tell(e.rings, s.now+1)
	}
	tell(s.snoozed, 1)
	if isFull || len(told) > mostRings || len(told)+len(s.rung) > mostRings {
		return nil, api.ErrFull
	}
	var list []api.Ring
	for r := range told {
		list = append(list, r)
	}
	slices.SortFunc(list, byFields)
	s.rung = append(s.rung, list...)
	s.snoozed = slices.DeleteFunc(s.snoozed, func(r api.Ring) bool { return told[r] > 0 })
	s.now = n
	return list, api.OK
}

// without a ring that is there.
func without(list []api.Ring, r api.Ring) []api.Ring {
	return slices.DeleteFunc(slices.Clone(list), func(other api.Ring) bool { return other == r })
}

func (s *shelf) done(r api.Ring) api.Errno {
	if !slices.Contains(s.rung, r) {
		return api.ErrNone
	}
	s.rung = without(s.rung, r)
	return api.OK
}

func (s *shelf) snooze(r api.Ring, n int) api.Errno {
	if n < 1 || n > longest || s.now+n > lastTime {
		return api.ErrRange
	}
	later := moved(r, s.now+n)
	switch {
	case !slices.Contains(s.rung, r):
		return api.ErrNone
	case slices.Contains(s.snoozed, later):
		return api.ErrClash
	case len(s.snoozed) >= mostRings:
		return api.ErrFull
	}
	s.rung, s.snoozed = without(s.rung, r), append(s.snoozed, later)
	return api.OK
}

// held is what a desk would tell.
func (s *shelf) held() held {
	h := held{now: s.now, rung: slices.Clone(s.rung), snoozed: slices.Clone(s.snoozed)}
	for _, e := range s.events {
		h.names = append(h.names, e.event.Name)
	}
	slices.Sort(h.names)
	slices.SortFunc(h.rung, byFields)
	slices.SortFunc(h.snoozed, byFields)
	return h
}
