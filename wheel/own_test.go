package wheel_test

import (
	"slices"
	"testing"

	"chimework/api"
)

// spoil all that a list has, and what lies behind its length.
func spoil(list []api.Ring) {
	list = append(list, api.Ring{At: -7})
	list = list[:cap(list)]
	for i := range list {
		list[i] = api.Ring{At: -7, Name: "x", Which: -7, Alarm: -7, Turn: -7}
	}
}

// What is done to what Go told does nothing to the wheel, nor to what it tells else.
func TestGoIsTheCallers(t *testing.T) {
	far := farFrom(begin)
	for _, to := range []int{begin, begin + 1, begin + 60, begin + 61, begin + 1440, begin + 525600, lastTime - 1} {
		w := filled(t, begin, far...)
		cut := 0
		for cut < len(far) && far[cut].At <= to {
			cut++
		}
		list, err := w.Go(to)
		wantError(t, "Go", err, api.OK)
		if !slices.Equal(list, far[:cut]) {
			t.Fatalf("Go to %d: got %+v, want %+v", to, list, far[:cut])
		}
		spoil(list)
		wantAt(t, w, to, far[cut:]...)
		again, err := w.Go(to)
		wantError(t, "Go", err, api.OK)
		spoil(again)
		wantOut(t, w, far[cut:]...)
	}
}

// What is done to the wheel does nothing to what Go told.
func TestGoStays(t *testing.T) {
	w := filled(t, begin, rising...)
	var told, want [][]api.Ring
	keep := func(to int, list ...api.Ring) {
		t.Helper()
		got, err := w.Go(to)
		wantError(t, "Go", err, api.OK)
		told = append(told, got)
		want = append(want, slices.Clone(list))
	}
	keep(begin)
	keep(66730169, rising[0])
	keep(66730170, rising[1:6]...)
	keep(66730170)
	for k := range 50 {
		// What lies where earlier answers came from is written again and again.
		r := api.Ring{At: 66730171 + (k+1)*64, Name: "x"}
		wantAdd(t, w, r, api.OK)
		if k == 0 {
			keep(r.At, rising[6], r)
			continue
		}
		other := api.Ring{At: r.At, Name: "y"}
		wantAdd(t, w, other, api.OK)
		wantDrop(t, w, other, api.OK)
		keep(r.At, r)
	}
	for i := range told {
		if !slices.Equal(told[i], want[i]) {
			t.Errorf("answer %d was changed: got %+v, want %+v", i, told[i], want[i])
		}
	}
}

// Two wheels have nothing in common.
func TestTwoWheels(t *testing.T) {
	a, b := made(t, begin), made(t, begin+100)
	wantAdd(t, a, rising[2], api.OK)
	wantAt(t, b, begin+100)
	wantDrop(t, b, rising[2], api.ErrNone)
	wantAdd(t, b, rising[2], api.OK)
	wantAdd(t, b, rising[0], api.ErrState)
	wantAdd(t, a, rising[0], api.OK)
	wantAdd(t, b, rising[4], api.OK)
	wantAt(t, a, begin, rising[0], rising[2])
	wantAt(t, b, begin+100, rising[2], rising[4])
	wantGo(t, b, 66730170, rising[2], rising[4])
	wantAt(t, a, begin, rising[0], rising[2])
	wantAt(t, b, 66730170)
	wantDrop(t, a, rising[2], api.OK)
	wantGo(t, a, 66730100, rising[0])
	wantAt(t, a, 66730100)
	wantAt(t, b, 66730170)
	// One that is full leaves the other one its room.
	a, b = full(t), made(t, fullAt)
	wantAdd(t, b, others[0], api.OK)
	wantAdd(t, a, others[0], api.ErrFull)
	wantAt(t, b, fullAt, others[0])
	wantOut(t, a, most()...)
	wantOut(t, b, others[0])
}

// Asking changes nothing, and what was refused neither.
func TestAskingChangesNothing(t *testing.T) {
	w := filled(t, begin, rising[1:6]...)
	for range 3 {
		wantAdd(t, w, api.Ring{}, api.ErrRange)
		wantAdd(t, w, api.Ring{At: begin}, api.ErrState)
		wantAdd(t, w, rising[1], api.ErrClash)
		wantAdd(t, w, rising[5], api.ErrClash)
		wantDrop(t, w, rising[0], api.ErrNone)
		wantDrop(t, w, rising[6], api.ErrNone)
		wantNoGo(t, w, begin-1, api.ErrState)
		wantNoGo(t, w, lastTime+1, api.ErrRange)
		wantGo(t, w, begin)
		wantAt(t, w, begin, rising[1:6]...)
	}
	wantOut(t, w, rising[1:6]...)
}

// The same calls of two wheels, one behind the other, are answered in the same way.
func TestTheSameAgain(t *testing.T) {
	play := func() []api.Ring {
		var told []api.Ring
		w := filled(t, begin, rising[4], rising[0], rising[6], rising[2])
		for _, to := range []int{begin + 150, begin + 169, begin + 170, begin + 5000} {
			list, _ := w.Go(to)
			told = append(append(told, list...), api.Ring{At: w.Now(), Turn: w.Len()})
			wantAdd(t, w, api.Ring{At: to + 100}, api.OK)
		}
		return told
	}
	if first, again := play(), play(); !slices.Equal(first, again) {
		t.Errorf("got %+v, then %+v", first, again)
	}
}
