package busy_test

import (
	"slices"
	"testing"

	"chimework/api"
	"chimework/busy"
)

func wantSlotAmong(t *testing.T, list []api.Busy, from, to, length, want int) {
	t.Helper()
	got, err := busy.SlotAmong(list, from, to, length)
	wantNumber(t, "SlotAmong", got, err, want)
}

func wantNoSlotAmong(t *testing.T, list []api.Busy, from, to, length int, want api.Errno) {
	t.Helper()
	got, err := busy.SlotAmong(list, from, to, length)
	wantNoNumber(t, "SlotAmong", got, err, want)
}

// There may be more of them than others tell.
func TestSlotAmongMany(t *testing.T) {
	for _, many := range []int{mostBusy + 1, 20 * mostBusy} {
		end := begin + 5*many
		for _, list := range [][]api.Busy{row(many, begin, 3, 2), backwards(row(many, begin, 3, 2))} {
			before := slices.Clone(list)
			wantSlotAmong(t, list, begin, end, 1, begin+3)
			wantSlotAmong(t, list, begin, end, 2, begin+3)
			wantNoSlotAmong(t, list, begin, end, 3, api.ErrNone)
			wantSlotAmong(t, list, begin, end+1, 3, end-2)
			wantSlotAmong(t, list, begin-3, end, 3, begin-3)
			wantSlotAmong(t, list, begin+4, end, 2, begin+8)
			if !slices.Equal(list, before) {
				t.Fatal("the list was changed")
			}
		}
		wantNoSlotAmong(t, row(many, begin, 5, 0), begin, end, 1, api.ErrNone)
		wantSlotAmong(t, row(many, begin, 0, 5), begin, end, end-begin, begin)
	}
}

// Its errors are Slot's, in their order, but that there may be too many.
func TestWhichErrorOfSlotAmong(t *testing.T) {
	many := row(mostBusy+1, begin, 3, 2)
	for _, length := range []int{1, 0, longest + 1} {
		wantNoSlotAmong(t, slices.Concat(many, of(0, begin), at(20, 10)), stretchEnd, begin, length, api.ErrRange)
		wantNoSlotAmong(t, slices.Concat(many, at(20, 10), of(0, begin)), 0, begin, length, api.ErrShape)
		wantNoSlotAmong(t, many, 0, begin, length, api.ErrRange)
		wantNoSlotAmong(t, many, begin, lastTime+1, length, api.ErrRange)
		wantNoSlotAmong(t, many, stretchEnd, begin, length, api.ErrShape)
	}
	wantNoSlotAmong(t, many, begin, stretchEnd, 0, api.ErrRange)
	wantNoSlotAmong(t, many, begin, stretchEnd, longest+1, api.ErrRange)
	wantNoSlotAmong(t, many, begin, begin, 1, api.ErrNone)
}
