package log_test

import (
	"math"
	"math/rand/v2"
	"slices"
	"testing"

	"chimework/api"
	"chimework/log"
	"chimework/plain"
)

func pickOne[T any](random *rand.Rand, list ...T) T { return list[random.IntN(len(list))] }

// drawEvent of those that may be put, under one of a few names; now and then one that is wrong.
func drawEvent(random *rand.Rand, pool []api.Event) api.Event {
	e := pickOne(random, pool...)
	e.Name = pickOne(random, "a", "b", "c", "meet")
	switch random.IntN(12) {
	case 0:
		e.Length = -1
	case 1:
		e.Name = "A"
	case 2:
		e.Not = []int{begin, begin}
	}
	return e
}

// drawRing of those that have rung, at most times.
func drawRing(random *rand.Rand, b *book) api.Ring {
	rings := pickOne(random, b.desk.Rung(), b.desk.Rung(), b.desk.Rung(), b.desk.Snoozed())
	if len(rings) == 0 || random.IntN(12) == 0 {
		return bell(pickOne(random, "a", "b"), begin)
	}
	return pickOne(random, rings...)
}

func drawTick(random *rand.Rand, now int) int {
	switch {
	case random.IntN(12) == 0:
		return pickOne(random, 0, -1, now, now-1, lastTime+1, now+mostSpan+1, math.MaxInt)
	case now == 0:
		return begin + random.IntN(2000) - 1000
	}
	return now + 1 + random.IntN(pickOne(random, 10, 100, 700, dayLong, 5*dayLong))
}

func drawAsk(random *rand.Rand, b *book, pool []api.Event) api.Ask {
	a := api.Ask{Event: drawEvent(random, pool), Name: pickOne(random, "a", "b", "c", "meet"), Ring: drawRing(random, b), N: drawTick(random, b.desk.Now())}
	a.What = pickOne(random, api.Put, api.Put, api.Drop, api.Tick, api.Tick, api.Tick, api.Tick, api.Done, api.Done, api.Snooze, api.Snooze, api.Snooze, 0, 6)
	if a.What == api.Snooze {
		a.N = pickOne(random, 1, 5, 700, 10000, 0, 10001)
	}
	return a
}

// drawKeep of what is not safe: beside the end of a record, or anywhere.
func drawKeep(random *rand.Rand, b *book) int {
	free := b.bytes() - b.safeBytes()
	if len(b.sizes) > b.safe && random.IntN(2) == 0 {
		many := b.safe + 1 + random.IntN(len(b.sizes)-b.safe)
		return sum(b.sizes[b.safe:many]) + random.IntN(3) - 1
	}
	return pickOne(random, 0, free, free+1, free-1, random.IntN(free+1), random.IntN(free+1), math.MaxInt, math.MinInt, -1, free+b.half)
}

// tally counts how often what was told of which ask; of a Sync it is 100, of a Crash 200 and how many asks it loses, at most 9.
type tally map[[2]int]int

// holdStep draws one step of a log, and holds it against a book.
func holdStep(t *testing.T, random *rand.Rand, l *log.Log, b *book, pool []api.Event, counts tally) {
	t.Helper()
	switch n := random.IntN(40); {
	case n == 0:
		many := len(b.asks)
		keep := drawKeep(random, b)
		l.Crash(keep)
		b.crash(t, keep)
		counts[[2]int{200, min(9, many-len(b.asks))}]++
	case n == 1:
		said := pickOne(random, 0, 1, 2, 5, 10, -1, math.MaxInt)
		l.Fail(said)
		b.fail(said)
	case n < 6:
		told := plain.Told(l.Sync())
		if want := b.sync(); told != want {
			t.Fatalf("Sync: got %v, want %v", told, want)
		}
		counts[[2]int{100, int(told)}]++
	default:
		a, before := drawAsk(random, b, pool), l.Bytes()
		want, told := b.do(t, a)
		got, err := l.Do(a)
		if plain.Told(err) != told || !slices.Equal(got, want) {
			t.Fatalf("Do(%+v): got %v, %v, want %v, %v", a, got, err, want, told)
		}
		if more := l.Bytes() - before; told == api.OK && more < 2 {
			t.Fatalf("Do(%+v) makes %d bytes more", a, more)
		}
		b.made(l.Bytes() - before)
		counts[[2]int{a.What, int(told)}]++
	}
	wantSize(t, l, b.bytes(), b.safeBytes())
	wantHeld(t, l, b.desk)
}

// Steps that are drawn, always the same, of logs in several zones.
func TestDrawn(t *testing.T) {
	random := rand.New(rand.NewPCG(18, 1))
	counts, pool := tally{}, events(t)
	for range 60 {
		for _, z := range zones() {
			l, b := madeIn(t, z), bookOf(t, z)
			for range 150 {
				holdStep(t, random, l, b, pool, counts)
			}
		}
	}
	// The draw is of no use if little comes of it.
	for _, c := range []struct {
		what  int
		told  []int
		least int
	}{
		{api.Put, []int{0, 1, 2, 6, 7}, 200}, {api.Drop, []int{0, 5, 6}, 200}, {api.Tick, []int{0, 1, 6}, 200}, {api.Done, []int{0, 5, 6}, 200}, {api.Snooze, []int{0, 1, 5, 6}, 200},
		{100, []int{0, 6}, 200}, {200, []int{0, 1, 2, 3, 4, 5}, 20},
	} {
		for _, told := range c.told {
			if many := counts[[2]int{c.what, told}]; many < c.least {
				t.Errorf("%d of %d was told %d times", told, c.what, many)
			}
		}
	}
}
