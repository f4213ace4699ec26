package zone_test

import (
	"math/rand/v2"
	"slices"
	"testing"

	"chimework/api"
	"chimework/plain"
	"chimework/zone"
)

// aheadOf says Z1, word by word: the last of the shifts that is there at a time.
func aheadOf(z api.Zone, at int) int {
	for _, s := range slices.Backward(z.Shifts) {
		if s.At <= at {
			return s.Ahead
		}
	}
	return z.Ahead
}

// holdMinutes holds each minute from one to another one against what it is there, minute by minute.
func holdMinutes(t *testing.T, z api.Zone, from, to int) {
	t.Helper()
	wantCheck(t, z, api.OK)
	world := map[int][]int{}
	// Whatever it is there, it is by no more than 900 minutes of the world beside it.
	for at := max(1, from-mostAhead); at <= min(lastTime, to+mostAhead); at++ {
		there := at + aheadOf(z, at)
		world[there] = append(world[there], at)
	}
	for n := max(1, from); n <= min(lastTime, to) && !t.Failed(); n++ {
		wantAhead(t, z, n, aheadOf(z, n))
		there := n + aheadOf(z, n)
		if there < 1 || there > lastTime {
			there = 0
		}
		wantLocal(t, z, n, there)
		wantBack(t, z, n, world[n]...)
	}
}

// Twenty shifts, one behind the other, in each minute.
func TestEachMinute(t *testing.T) {
	t.Parallel()
	const a = 66729600
	rows := []api.Zone{
		inARow(0, a, apart, maxShifts, 60, 0),
		inARow(60, a, apart, maxShifts, 120, 60, -300, 345),
		inARow(900, a, apart, maxShifts, -900, 900),
		inARow(900, a, apart, maxShifts, 0, -900, 900),
		inARow(900, a, apart+1, maxShifts, 1, -900, 900),
		inARow(-900, a, apart+3, maxShifts, -1, 1, 0, -900, 900),
		inARow(720, a, apart, maxShifts, 0, -720, -900, 900, 899, 0, -1),
	}
	for _, z := range rows {
		holdMinutes(t, z, a-2000, a+maxShifts*apart+2000)
	}
}

// Shifts that begin at the first time, or end at the last one, in each minute.
func TestEachMinuteOfTheEnds(t *testing.T) {
	t.Parallel()
	for _, round := range [][]int{{60, 0}, {900, -900}, {-900, 900}, {0, -900, 900}, {0, 900, -900}} {
		for by := range 3 {
			holdMinutes(t, inARow(round[len(round)-1], 1+by*450, apart, 4, round...), 1, 8000)
			holdMinutes(t, inARow(round[len(round)-1], lastTime-by*450-3*apart, apart, 4, round...), lastTime-8000, lastTime)
		}
	}
}

// draw a zone whose shifts lie within some days of each other.
func draw(random *rand.Rand, first int) api.Zone {
	ahead := func() int {
		if random.IntN(4) == 0 {
			return []int{-900, 900, 0}[random.IntN(3)]
		}
		return random.IntN(1801) - 900
	}
	z := api.Zone{Ahead: ahead()}
	at := first
	for range random.IntN(6) {
		z.Shifts = append(z.Shifts, api.Shift{At: at, Ahead: ahead()})
		at += apart + random.IntN(500)*random.IntN(3)
	}
	return z
}

func TestDrawnZones(t *testing.T) {
	t.Parallel()
	random := rand.New(rand.NewPCG(7, 20))
	for range 60 {
		first := 1 + random.IntN(lastTime-20000)
		holdMinutes(t, draw(random, first), first-2000, first+8*apart)
		if t.Failed() {
			return
		}
	}
}

// There and back: each time that is one there is among the times that Twice tells of it, and each of those is there at that time.
func TestThereAndBack(t *testing.T) {
	t.Parallel()
	random := rand.New(rand.NewPCG(7, 21))
	for range 2000 {
		first := 1 + random.IntN(lastTime-20000)
		z := draw(random, first)
		at := min(max(1, first-2000+random.IntN(12000)), lastTime)
		there, err := zone.Local(z, at)
		if err != nil {
			continue
		}
		list, err := zone.Twice(z, there)
		if err != nil || !slices.Contains(list, at) {
			t.Fatalf("Twice(%v, %d): got %v, %v, want %d among them", z, there, list, err, at)
		}
		for _, again := range list {
			if got, err := zone.Local(z, again); got != there || err != nil {
				t.Fatalf("Local(%v, %d): got %d, %v, want %d", z, again, got, err, there)
			}
		}
	}
}

// A gap is told by World alone, and just where Twice has none.
func TestGapsAreNoErrorOfTwice(t *testing.T) {
	z := zoneOf(0, 66729600, 60)
	for there := 66729600 - 2; there < 66729600+62; there++ {
		list, err := zone.Twice(z, there)
		if err != nil {
			t.Errorf("Twice(%v, %d): got %v, want no error", z, there, err)
		}
		_, err = zone.World(z, there)
		if gap := plain.Told(err) == api.ErrGap; gap != (len(list) == 0) || !gap && err != nil {
			t.Errorf("World(%v, %d): got %v, while Twice has %v", z, there, err, list)
		}
	}
}
