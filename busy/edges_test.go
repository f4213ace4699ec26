package busy_test

import (
	"math"
	"slices"
	"testing"

	"chimework/api"
)

// row makes so many, each some minutes long and some minutes behind the one ahead.
func row(many, from, long, apart int) []api.Busy {
	var list []api.Busy
	for i := range many {
		list = append(list, api.Busy{From: from + i*(long+apart), To: from + i*(long+apart) + long})
	}
	return list
}

// backwards is a list from its end.
func backwards(list []api.Busy) []api.Busy {
	list = slices.Clone(list)
	slices.Reverse(list)
	return list
}

// An empty list and nil are the same, to every call.
func TestEmptyAndNil(t *testing.T) {
	spare := of(1, 0, 0, 0, 5, 9)[:0]
	for _, list := range [][]api.Busy{nil, {}, spare} {
		wantNorm(t, list, nil)
		wantTotal(t, list, 0)
		wantFree(t, list, begin, stretchEnd, at(0, 100))
		wantFree(t, list, begin, begin, nil)
		wantSlot(t, list, begin, stretchEnd, 100, begin)
		wantNoSlot(t, list, begin, stretchEnd, 101, api.ErrNone)
		for _, other := range [][]api.Busy{nil, {}, spare} {
			wantJoin(t, list, other, nil)
		}
		wantJoin(t, list, at(10, 20), at(10, 20))
		wantJoin(t, at(10, 20), list, at(10, 20))
	}
}

// The first and the last time of all.
func TestFirstAndLastTime(t *testing.T) {
	for _, c := range []struct {
		list, norm, free []api.Busy // free of all times
		total            int
	}{
		{nil, nil, of(1, lastTime), 0},
		{of(1, 1), nil, of(1, lastTime), 0},
		{of(lastTime, lastTime), nil, of(1, lastTime), 0},
		{of(1, 2), of(1, 2), of(2, lastTime), 1},
		{of(lastTime-1, lastTime), of(lastTime-1, lastTime), of(1, lastTime-1), 1},
		{of(1, lastTime), of(1, lastTime), nil, lastTime - 1},
		{of(1, lastTime-1, 2, lastTime), of(1, lastTime), nil, lastTime - 1},
		{of(lastTime-1, lastTime, 1, 2), of(1, 2, lastTime-1, lastTime), of(2, lastTime-1), 2},
		{of(2, lastTime-1), of(2, lastTime-1), of(1, 2, lastTime-1, lastTime), lastTime - 3},
	} {
		wantNorm(t, c.list, c.norm)
		wantTotal(t, c.list, c.total)
		wantFree(t, c.list, 1, lastTime, c.free)
		for _, end := range []int{1, lastTime} {
			wantFree(t, c.list, end, end, nil)
			wantNoSlot(t, c.list, end, end, 1, api.ErrNone)
		}
		if len(c.free) > 0 {
			wantSlot(t, c.list, 1, lastTime, 1, c.free[0].From)
		} else {
			wantNoSlot(t, c.list, 1, lastTime, 1, api.ErrNone)
		}
	}
}

// As many as may be: all apart, all the same, all touching, none of a minute.
func TestMostOfThem(t *testing.T) {
	apart := row(mostBusy, begin, 3, 2)
	gaps := row(mostBusy-1, begin+3, 2, 3)
	all := api.Busy{From: begin, To: apart[mostBusy-1].To}
	around := slices.Concat([]api.Busy{{From: begin - 1, To: begin}}, gaps, []api.Busy{{From: all.To, To: all.To + 1}})
	for _, list := range [][]api.Busy{apart, backwards(apart)} {
		wantNorm(t, list, apart)
		wantTotal(t, list, 3*mostBusy)
		wantFree(t, list, all.From, all.To, gaps)
		// There are more of them free than may be taken.
		wantFree(t, list, begin-1, all.To+1, around)
		wantSlot(t, list, all.From, all.To, 2, begin+3)
		wantNoSlot(t, list, all.From, all.To, 3, api.ErrNone)
		wantSlot(t, list, all.From, all.To+3, 3, all.To)
	}
	wantNorm(t, row(mostBusy, begin, 3, 0), of(begin, begin+3*mostBusy))
	wantTotal(t, row(mostBusy, begin, 3, 0), 3*mostBusy)
	wantNorm(t, row(mostBusy, begin, 0, 3), nil)
	wantFree(t, row(mostBusy, begin, 0, 3), begin, stretchEnd, at(0, 100))
	wantNorm(t, slices.Repeat(at(10, 20), mostBusy), at(10, 20))
	wantTotal(t, slices.Repeat(at(10, 20), mostBusy), 10)
}

// One more than may be is told by every call, though fewer would be left of them.
func TestOneTooMany(t *testing.T) {
	for _, many := range []int{mostBusy + 1, mostBusy + 2, 2 * mostBusy, 5000} {
		for _, list := range [][]api.Busy{row(many, begin, 3, 2), row(many, begin, 3, 0), row(many, begin, 0, 3), slices.Repeat(at(10, 20), many)} {
			wantListRefused(t, list, api.ErrFull)
		}
	}
	// What lies behind the length does not count.
	list := row(2*mostBusy, begin, 3, 2)[:mostBusy]
	wantNorm(t, list, row(mostBusy, begin, 3, 2))
	wantJoin(t, list, nil, row(mostBusy, begin, 3, 2))
}

func TestHowManyOfJoin(t *testing.T) {
	for _, many := range []int{0, 1, 2, 99, 100, 101, 198, 199, 200} {
		list := row(mostBusy, begin, 3, 2)
		wantJoin(t, list[:many], list[many:], list)
		wantJoin(t, list[many:], list[:many], list)
		wantJoin(t, backwards(list[many:]), list[:many], list)
	}
	for _, many := range []int{1, 2, 99, 100, 101, 199, 200} {
		for _, list := range [][]api.Busy{row(mostBusy+1, begin, 3, 2), row(mostBusy+1, begin, 3, 0), row(mostBusy+1, begin, 0, 3), slices.Repeat(at(10, 20), mostBusy+1)} {
			wantNoJoin(t, list[:many], list[many:], api.ErrFull)
			wantNoJoin(t, list[many:], list[:many], api.ErrFull)
		}
	}
	most := row(mostBusy, begin, 3, 2)
	wantNoJoin(t, most, most, api.ErrFull)
}

// Stretches of no minute, wherever they are.
func TestNoMinuteIsFree(t *testing.T) {
	list := at(10, 20, 30, 40)
	for _, m := range []int{-5, 0, 9, 10, 15, 20, 21, 25, 30, 40, 41, 100} {
		wantFree(t, list, begin+m, begin+m, nil)
		wantNoSlot(t, list, begin+m, begin+m, 1, api.ErrNone)
	}
}

// Each way in which a stretch lies to what is taken.
func TestStretches(t *testing.T) {
	list := at(30, 40, 10, 20)
	for _, c := range []struct {
		from, to int
		want     []api.Busy
	}{
		{0, 5, at(0, 5)}, {0, 10, at(0, 10)}, {0, 11, at(0, 10)}, {0, 20, at(0, 10)}, {0, 21, at(0, 10, 20, 21)},
		{9, 10, at(9, 10)}, {10, 11, nil}, {10, 20, nil}, {12, 18, nil}, {19, 20, nil}, {20, 21, at(20, 21)},
		{10, 21, at(20, 21)}, {15, 25, at(20, 25)}, {15, 30, at(20, 30)}, {15, 35, at(20, 30)}, {15, 45, at(20, 30, 40, 45)},
		{20, 30, at(20, 30)}, {21, 29, at(21, 29)}, {19, 31, at(20, 30)}, {29, 41, at(29, 30, 40, 41)},
		{30, 40, nil}, {39, 41, at(40, 41)}, {40, 50, at(40, 50)}, {45, 50, at(45, 50)},
		{9, 41, at(9, 10, 20, 30, 40, 41)}, {-100, 200, at(-100, 10, 20, 30, 40, 200)},
	} {
		wantFree(t, list, begin+c.from, begin+c.to, c.want)
		length, first := 0, 0
		for _, b := range c.want {
			if b.To-b.From > length {
				length, first = b.To-b.From, b.From
			}
		}
		if length > 0 {
			wantSlot(t, list, begin+c.from, begin+c.to, length, first)
		}
		wantNoSlot(t, list, begin+c.from, begin+c.to, length+1, api.ErrNone)
	}
}

// A length that just fits, and one minute more: at the begin of a stretch, between two and at its end.
func TestJustFits(t *testing.T) {
	list := at(10, 20, 31, 40, 88, 90)
	for _, c := range []struct{ from, to, length, want int }{
		{0, 40, 1, 0}, {0, 40, 10, 0}, {0, 40, 11, 20}, {0, 100, 12, 40}, {0, 100, 48, 40}, {0, 52, 12, 40},
		{10, 40, 11, 20}, {15, 100, 1, 20}, {20, 31, 11, 20}, {0, 50, 11, 20}, {41, 100, 47, 41}, {60, 100, 11, 60},
		{80, 100, 10, 90}, {80, 99, 9, 90}, {88, 91, 1, 90}, {100, 110, 10, 100}, {-40, 110, 50, -40}, {-30, 110, 40, -30}, {-30, 110, 41, 40},
	} {
		if c.want+c.length > c.to {
			t.Fatalf("%v is no slot in its stretch", c)
		}
		wantSlot(t, list, begin+c.from, begin+c.to, c.length, begin+c.want)
	}
	for _, c := range []struct{ from, to, length int }{
		{0, 40, 12}, {0, 9, 10}, {20, 31, 12}, {21, 31, 11}, {20, 30, 11}, {0, 51, 12}, {0, 100, 49}, {41, 88, 48},
		{80, 100, 11}, {80, 99, 10}, {88, 90, 1}, {100, 110, 11}, {10, 20, 1}, {12, 13, 1}, {0, 100, longest},
	} {
		wantNoSlot(t, list, begin+c.from, begin+c.to, c.length, api.ErrNone)
	}
}

// The longest length, and one that is none.
func TestLengths(t *testing.T) {
	wantSlot(t, nil, begin, begin+longest, longest, begin)
	wantSlot(t, nil, begin, begin+longest, longest-1, begin)
	wantSlot(t, nil, 1, lastTime, longest, 1)
	wantSlot(t, of(2, lastTime-longest), 1, lastTime, longest, lastTime-longest)
	wantNoSlot(t, of(2, lastTime-longest+1), 1, lastTime, longest, api.ErrNone)
	wantNoSlot(t, nil, begin, begin+longest-1, longest, api.ErrNone)
	wantSlot(t, nil, begin, begin+1, 1, begin)
	for _, length := range []int{0, -1, -2, -longest, math.MinInt, longest + 1, longest + 2, math.MaxInt} {
		wantNoSlot(t, nil, 1, lastTime, length, api.ErrRange)
		wantNoSlot(t, at(10, 20), begin, stretchEnd, length, api.ErrRange)
		// though none would be there
		wantNoSlot(t, at(0, 100), begin, stretchEnd, length, api.ErrRange)
		wantNoSlot(t, nil, begin, begin, length, api.ErrRange)
	}
}
