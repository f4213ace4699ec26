package desk_test

import (
	"math/rand/v2"
	"slices"
	"testing"

	"chimework/api"
	"chimework/desk"
	"chimework/plain"
)

var rulesDrawn = []string{
	"daily", "daily every 2", "daily count 10", "daily on mo,fr", "weekly", "weekly every 2 on mo,we,su", "weekly count 7 on tu",
	"weekly on mo,tu,we,th,fr,sa,su pick -1,1", "monthly", "monthly days -1,1,15", "monthly every 2 on 1mo,-1fr", "yearly",
}

func pickOne[T any](random *rand.Rand, list ...T) T { return list[random.IntN(len(list))] }

// drawTime near one.
func drawTime(random *rand.Rand, near int) int {
	away := pickOne(random, 3, 60, 1500, 20000)
	return min(max(near+random.IntN(2*away+1)-away, 1), lastTime)
}

func drawTimes(random *rand.Rand, near, many int) []int {
	var list []int
	for range random.IntN(many + 1) {
		list = append(list, drawTime(random, near))
	}
	slices.Sort(list)
	return slices.Compact(list)
}

func drawAlarm(random *rand.Rand) api.Alarm {
	a := api.Alarm{Offset: pickOne(random, 0, 0, -10, 30, random.IntN(2881)-1440, random.IntN(200001)-100000), End: random.IntN(2) == 0}
	if random.IntN(3) == 0 {
		a.Repeat, a.Between = 1+random.IntN(5), pickOne(random, 1, 5, 60, 1440, 10000)
	}
	return a
}

// drawEvent near a time, whose rule has an end; now and then one that is wrong.
func drawEvent(t *testing.T, random *rand.Rand, name string, near int) api.Event {
	e := once(name, drawTime(random, near), pickOne(random, 0, 1, 90, random.IntN(3000)))
	if random.IntN(3) > 0 {
		e = repeated(t, name, e.Start, e.Length, pickOne(random, rulesDrawn...))
		e.Rule.Until = min(e.Start/dayLong+1+pickOne(random, 30, 200, random.IntN(900)), lastTime/dayLong+1)
	}
	e.Text = pickOne(random, "", "text")
	e.More = drawTimes(random, e.Start, pickOne(random, 0, 3, 20))
	e.Not = drawTimes(random, e.Start, pickOne(random, 0, 3))
	for _, at := range slices.Compact(slices.Sorted(slices.Values(append(drawTimes(random, e.Start, pickOne(random, 0, 3)), pickOne(random, e.More, []int{e.Start})...)))) {
		if random.IntN(2) == 0 {
			e.Changes = append(e.Changes, api.Change{At: at, To: pickOne(random, 0, drawTime(random, at), drawTime(random, at))})
		}
	}
	for range random.IntN(5) {
		e.Alarms = append(e.Alarms, drawAlarm(random))
	}
	switch random.IntN(30) {
	case 0:
		e.Length = -1
	case 1:
		e.More = []int{begin, begin}
	case 2:
		e.Text = "\n"
	}
	return e
}

// drawZone whose shifts lie near a time.
func drawZone(random *rand.Rand, near int) api.Zone {
	ahead := func() int { return pickOne(random, 0, 60, -300, random.IntN(1801)-900) }
	z := api.Zone{Ahead: ahead()}
	at := drawTime(random, near)
	for range random.IntN(5) {
		if at <= lastTime {
			z.Shifts = append(z.Shifts, api.Shift{At: at, Ahead: ahead()})
		}
		at += dayLong + random.IntN(20000)
	}
	return z
}

// drawRing of those that have rung, at most times.
func drawRing(random *rand.Rand, s *shelf) api.Ring {
	lists := [][]api.Ring{s.rung, s.rung, s.rung, s.rung, s.snoozed, list(bell("a", s.now))}
	some := pickOne(random, lists...)
	if len(some) == 0 {
		return api.Ring{At: s.now, Name: "b"}
	}
	r := pickOne(random, some...)
	if random.IntN(10) == 0 {
		r = pickOne(random, others(r)...)
	}
	return r
}

// drawTick on by little or by much, or to just where something rings.
func drawTick(random *rand.Rand, s *shelf, near int) int {
	if s.now == 0 {
		return pickOne(random, near, drawTime(random, near), drawTime(random, near), 0, lastTime+1)
	}
	switch n := random.IntN(20); {
	case n == 0:
		return pickOne(random, noTimes...)
	case n == 1:
		return s.now + pickOne(random, 0, -1, -1000, mostSpan, mostSpan+1, mostSpan+100)
	case n < 10:
		return s.next() + random.IntN(3) - 1
	}
	return s.now + 1 + random.IntN(pickOne(random, 1, 10, 100, 600, dayLong, 5*dayLong, 40*dayLong))
}

// next time at which something rings, or the one behind now.
func (s *shelf) next() int {
	next := lastTime
	look := func(list []api.Ring) {
		for _, r := range list {
			if r.At > s.now && r.At < next {
				next = r.At
			}
		}
	}
	for _, e := range s.events {
		look(e.rings)
	}
	look(s.snoozed)
	if next == lastTime {
		return s.now + 1
	}
	return next
}

// drawAsk of a shelf, with the entry of an event that may be put.
func drawAsk(random *rand.Rand, s *shelf, pool []entry, near int) (api.Ask, entry) {
	e := pickOne(random, pool...)
	a := api.Ask{What: api.Tick, Event: e.event, Name: pickOne(random, pool...).event.Name, Ring: drawRing(random, s), N: drawTick(random, s, near)}
	switch n := random.IntN(100); {
	case n == 0:
		a.What = pickOne(random, 0, 6, -1, 1000)
	case n < 14:
		a.What = api.Put
	case n < 17:
		a.What = api.Drop
	case n < 30:
		a.What = api.Done
	case n < 55:
		a.What = api.Snooze
		a.N = pickOne(random, 1, 5, 60, 600, longest, 1+random.IntN(longest), 1+random.IntN(longest), 1+random.IntN(longest), 0, longest+1)
	}
	return a, e
}

// tally counts how often what was told of which ask, and how many rings were.
type tally struct {
	asks  map[[2]int]int
	rings map[int]int
}

// holdDrawn draws asks of one desk, of which the first ones put an event of each name, and holds each answer against a shelf.
func holdDrawn(t *testing.T, random *rand.Rand, names []string, steps int, counts tally) {
	t.Helper()
	near := pickOne(random, begin, begin, 1, 5000, lastTime, lastTime-20000, 1+random.IntN(lastTime))
	z := drawZone(random, near)
	var pool []entry
	for _, name := range names {
		pool = append(pool, entryOf(t, z, drawEvent(t, random, name, near)))
	}
	d, s := madeIn(t, z), &shelf{}
	for i := range steps {
		a, e := drawAsk(random, s, pool, near)
		if i < len(pool) {
			a.What, a.Event, e = api.Put, pool[i].event, pool[i]
		}
		want, told := s.do(a, e)
		got, err := d.Do(a)
		counts.asks[[2]int{a.What, int(told)}]++
		counts.rings[len(want)]++
		if plain.Told(err) != told || !slices.Equal(got, want) {
			t.Fatalf("Do(%+v) in %v: got %v, %v, want %v, %v", a, z, got, err, want, told)
		}
		if h := heldBy(d); !h.is(s.held()) {
			t.Fatalf("behind Do(%+v) in %v: got %+v, want %+v", a, z, h, s.held())
		}
	}
}

// Asks that are drawn, always the same, of desks with few events, with many, and with as many as may be.
func TestDrawn(t *testing.T) {
	random := rand.New(rand.NewPCG(17, 1))
	counts := tally{asks: map[[2]int]int{}, rings: map[int]int{}}
	for range 800 {
		holdDrawn(t, random, []string{"a", "aa", "b", "a", "aa", "b", "a"}, 120, counts)
	}
	for range 60 {
		holdDrawn(t, random, namesOf(mostEvents+6), 200, counts)
	}
	// The draw is of no use if little comes of it.
	for _, c := range []struct {
		what  int
		told  []api.Errno
		least int
	}{
		{api.Put, []api.Errno{api.OK, api.ErrRange, api.ErrSyntax, api.ErrClash, api.ErrFull}, 50},
		{api.Drop, []api.Errno{api.OK, api.ErrNone}, 400},
		{api.Tick, []api.Errno{api.OK, api.ErrRange, api.ErrState, api.ErrFull}, 200},
		{api.Done, []api.Errno{api.OK, api.ErrNone}, 200},
		{api.Snooze, []api.Errno{api.OK, api.ErrRange, api.ErrNone}, 200},
	} {
		for _, told := range c.told {
			if many := counts.asks[[2]int{c.what, int(told)}]; many < c.least {
				t.Errorf("%v of %d was told %d times", told, c.what, many)
			}
		}
	}
	for many := range 6 {
		if counts.rings[many] < 100 {
			t.Errorf("%d rings were told %d times", many, counts.rings[many])
		}
	}
}

// way is what a desk told, to be held against what it tells another time.
type way struct {
	rings []api.Ring
	told  api.Errno
	held  held
}

// The same asks of two desks, one ask to the one and one to the other in turn, are answered in the same way.
func TestDrawnTwice(t *testing.T) {
	for i := range 20 {
		random := rand.New(rand.NewPCG(17, uint64(2+i)))
		z := drawZone(random, begin)
		var pool []entry
		for _, name := range []string{"a", "aa", "ab", "b", "a", "b"} {
			pool = append(pool, entryOf(t, z, drawEvent(t, random, name, begin)))
		}
		ask := func(d *desk.Desk, a api.Ask) way {
			rings, err := d.Do(a)
			return way{rings, plain.Told(err), heldBy(d)}
		}
		one, other, s := madeIn(t, z), madeIn(t, z), &shelf{}
		for range 60 {
			a, e := drawAsk(random, s, pool, begin)
			s.do(a, e)
			got, again := ask(one, a), ask(other, a)
			if !slices.Equal(got.rings, again.rings) || got.told != again.told || !got.held.is(again.held) {
				t.Fatalf("Do(%+v): got %+v, then %+v", a, got, again)
			}
		}
	}
}
