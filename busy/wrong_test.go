package busy_test

import (
	"math"
	"slices"
	"testing"

	"chimework/api"
	"chimework/busy"
)

var noTimes = []int{0, -1, -2, -begin, -lastTime, math.MinInt, lastTime + 1, lastTime + 2, math.MaxInt}

func wantNoJoin(t *testing.T, a, b []api.Busy, want api.Errno) {
	t.Helper()
	got, err := busy.Join(a, b)
	wantNoList(t, "Join", got, err, want)
}

func wantNoFree(t *testing.T, list []api.Busy, from, to int, want api.Errno) {
	t.Helper()
	got, err := busy.Free(list, from, to)
	wantNoList(t, "Free", got, err, want)
}

// wantListRefused asks every call for the error of a list, and nothing beside it: whatever else is handed in.
func wantListRefused(t *testing.T, list []api.Busy, want api.Errno) {
	t.Helper()
	got, err := busy.Norm(list)
	wantNoList(t, "Norm", got, err, want)
	total, err := busy.Total(list)
	wantNoNumber(t, "Total", total, err, want)
	wantNoJoin(t, list, nil, want)
	wantNoJoin(t, nil, list, want)
	wantNoJoin(t, list, at(10, 20), want)
	wantNoJoin(t, at(10, 20), list, want)
	wantNoJoin(t, list, list, want)
	for _, s := range of(begin, stretchEnd, begin, begin, 1, lastTime, stretchEnd, begin, 0, begin, begin, lastTime+1) {
		wantNoFree(t, list, s.From, s.To, want)
		for _, length := range []int{1, 10, longest, 0, -1, longest + 1} {
			wantNoSlot(t, list, s.From, s.To, length, want)
		}
	}
}

// What is no time is told, ahead of To being below From.
func TestTimesThatAreNone(t *testing.T) {
	for _, n := range noTimes {
		for _, other := range []int{1, 2, begin, lastTime - 1, lastTime, 0, -1, lastTime + 1, math.MinInt, math.MaxInt} {
			wantListRefused(t, of(n, other), api.ErrRange)
			wantListRefused(t, of(other, n), api.ErrRange)
		}
		wantListRefused(t, of(n, n), api.ErrRange)
		wantListRefused(t, slices.Concat(at(10, 20), of(n, begin), at(30, 40)), api.ErrRange)
		wantListRefused(t, slices.Concat(at(10, 20, 30, 40), of(begin, n)), api.ErrRange)
	}
}

func TestToBelowFrom(t *testing.T) {
	for _, wrong := range of(2, 1, begin+1, begin, begin+100, begin, lastTime, lastTime-1, lastTime, 1) {
		wantListRefused(t, []api.Busy{wrong}, api.ErrShape)
		wantListRefused(t, slices.Concat(at(10, 20), []api.Busy{wrong}), api.ErrShape)
		wantListRefused(t, slices.Concat([]api.Busy{wrong}, at(10, 20)), api.ErrShape)
		// One that holds it does not make it right.
		wantListRefused(t, slices.Concat(of(1, lastTime), []api.Busy{wrong}), api.ErrShape)
	}
}

// Of several wrong ones the first is told, whatever is wrong with the others.
func TestFirstWrongOne(t *testing.T) {
	turned, noTime := at(20, 10), of(0, begin)
	wantListRefused(t, slices.Concat(turned, noTime), api.ErrShape)
	wantListRefused(t, slices.Concat(noTime, turned), api.ErrRange)
	wantListRefused(t, slices.Concat(at(10, 20, 30, 30), turned, at(5, 6), noTime), api.ErrShape)
	wantListRefused(t, slices.Concat(at(10, 20, 30, 30), noTime, at(5, 6), turned), api.ErrRange)
	wantListRefused(t, slices.Concat(turned, of(begin, lastTime+1)), api.ErrShape)
	wantListRefused(t, slices.Concat(of(begin, lastTime+1), turned), api.ErrRange)
	// The first in the list, not the first by time.
	wantListRefused(t, of(lastTime, begin, -5, begin), api.ErrShape)
	wantListRefused(t, of(lastTime+1, begin, 2, 1), api.ErrRange)
	// One that has both faults.
	wantListRefused(t, of(0, -1), api.ErrRange)
	wantListRefused(t, of(begin, 0), api.ErrRange)
	wantListRefused(t, of(lastTime+1, lastTime), api.ErrRange)
	wantListRefused(t, of(math.MaxInt, math.MinInt), api.ErrRange)
}

// Too many are told ahead of what is wrong with them.
func TestTooManyWithWrongOnes(t *testing.T) {
	for _, wrong := range [][]api.Busy{at(20, 10), of(0, begin), of(begin, lastTime+1), of(0, -1)} {
		few, most := row(mostBusy-1, begin, 3, 2), row(mostBusy, begin, 3, 2)
		told := api.ErrRange
		if wrong[0] == at(20, 10)[0] {
			told = api.ErrShape
		}
		wantListRefused(t, slices.Concat(wrong, few), told)
		wantListRefused(t, slices.Concat(few, wrong), told)
		wantListRefused(t, slices.Concat(wrong, most), api.ErrFull)
		wantListRefused(t, slices.Concat(most, wrong), api.ErrFull)
		wantListRefused(t, slices.Repeat(wrong, mostBusy), told)
		wantListRefused(t, slices.Repeat(wrong, mostBusy+1), api.ErrFull)
	}
}

// Of Join a's errors are told, then b's, then that they are too many together.
func TestWhichErrorOfJoin(t *testing.T) {
	noTime, turned, full := of(0, begin), at(20, 10), row(mostBusy+1, begin, 3, 2)
	faults := []struct {
		list []api.Busy
		told api.Errno
	}{
		{noTime, api.ErrRange}, {turned, api.ErrShape}, {full, api.ErrFull},
		{slices.Concat(full, noTime), api.ErrFull}, {slices.Concat(noTime, full), api.ErrFull},
		{slices.Concat(row(150, begin, 3, 2), noTime), api.ErrRange}, {slices.Concat(row(150, begin, 3, 2), turned), api.ErrShape},
		{slices.Concat(row(mostBusy-1, begin, 3, 2), noTime), api.ErrRange}, {slices.Concat(row(mostBusy-1, begin, 3, 2), turned), api.ErrShape},
	}
	for _, f := range faults {
		for _, other := range faults {
			wantNoJoin(t, f.list, other.list, f.told)
		}
		for _, right := range [][]api.Busy{nil, at(10, 20), row(150, begin, 3, 2), row(mostBusy-1, begin, 3, 2), row(mostBusy, begin, 3, 2)} {
			wantNoJoin(t, f.list, right, f.told)
			wantNoJoin(t, right, f.list, f.told)
		}
	}
}

// Of Free and Slot: the list, then from and to, then to below from; of Slot the length behind them all.
func TestWhichErrorOfAStretch(t *testing.T) {
	right := at(10, 20)
	refuse := func(from, to int, want api.Errno) {
		t.Helper()
		for _, list := range [][]api.Busy{nil, right, at(0, 100), row(mostBusy, begin, 3, 2)} {
			wantNoFree(t, list, from, to, want)
			for _, length := range []int{1, 10, longest, 0, -1, longest + 1, math.MinInt, math.MaxInt} {
				wantNoSlot(t, list, from, to, length, want)
			}
		}
	}
	for _, n := range noTimes {
		for _, other := range []int{1, begin, lastTime, 0, -1, lastTime + 1, math.MinInt, math.MaxInt} {
			refuse(n, other, api.ErrRange)
			refuse(other, n, api.ErrRange)
		}
	}
	refuse(begin, begin-1, api.ErrShape)
	refuse(begin+100, begin, api.ErrShape)
	refuse(lastTime, 1, api.ErrShape)
	refuse(2, 1, api.ErrShape)
	refuse(lastTime, lastTime-1, api.ErrShape)
	// A list's ErrShape ahead of the stretch's ErrRange, and the other way round.
	wantNoFree(t, at(20, 10), 0, begin, api.ErrShape)
	wantNoSlot(t, at(20, 10), 0, begin, 0, api.ErrShape)
	wantNoFree(t, of(0, begin), stretchEnd, begin, api.ErrRange)
	wantNoSlot(t, of(0, begin), stretchEnd, begin, 0, api.ErrRange)
	wantNoFree(t, row(mostBusy+1, begin, 3, 2), 0, begin, api.ErrFull)
	wantNoSlot(t, row(mostBusy+1, begin, 3, 2), 0, begin, 0, api.ErrFull)
}
