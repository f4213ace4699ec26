package queue_test

import (
	"slices"
	"testing"

	"chimework/api"
	"chimework/queue"
)

// What is done to what All tells does nothing to the queue, nor to what it tells else.
func TestAllIsTheCallers(t *testing.T) {
	// Behind pops and drops there may be room behind what a queue has.
	short := filled(t, rising...)
	wantPop(t, short, rising[0])
	wantDrop(t, short, rising[6], api.OK)
	for _, c := range []struct {
		q    *queue.Queue
		want []api.Ring
	}{{queue.New(), nil}, {filled(t, rising[0]), rising[:1]}, {filled(t, rising...), rising}, {short, rising[1:6]}, {full(t), most()}} {
		list, other := c.q.All(), c.q.All()
		list = append(list, api.Ring{At: -7})
		list = list[:cap(list)]
		for i := range list {
			list[i] = api.Ring{At: -7, Name: "x", Which: -7, Alarm: -7, Turn: -7}
		}
		if !slices.Equal(other, c.want) {
			t.Errorf("another answer was changed: %+v", other)
		}
		wantOut(t, c.q, c.want...)
	}
}

// What is done to the queue does nothing to what All told.
func TestAllStays(t *testing.T) {
	q := queue.New()
	var told [][]api.Ring
	var want [][]api.Ring
	keep := func(list ...api.Ring) {
		t.Helper()
		wantAll(t, q, list...)
		told = append(told, q.All())
		want = append(want, slices.Clone(list))
	}
	keep()
	wantPush(t, q, rising[3], api.OK)
	keep(rising[3])
	wantPush(t, q, rising[5], api.OK)
	keep(rising[3], rising[5])
	wantPush(t, q, rising[1], api.OK)
	keep(rising[1], rising[3], rising[5])
	wantPush(t, q, rising[4], api.OK)
	keep(rising[1], rising[3], rising[4], rising[5])
	wantDrop(t, q, rising[3], api.OK)
	keep(rising[1], rising[4], rising[5])
	wantPop(t, q, rising[1])
	keep(rising[4], rising[5])
	wantPush(t, q, rising[6], api.OK)
	keep(rising[4], rising[5], rising[6])
	wantDrop(t, q, rising[6], api.OK)
	wantOut(t, q, rising[4], rising[5])
	keep()
	for i := range told {
		if !slices.Equal(told[i], want[i]) {
			t.Errorf("answer %d was changed: got %+v, want %+v", i, told[i], want[i])
		}
	}
}

// Two queues have nothing in common.
func TestTwoQueues(t *testing.T) {
	a, b := queue.New(), queue.New()
	wantPush(t, a, rising[2], api.OK)
	wantAll(t, b)
	wantNoPop(t, b)
	wantDrop(t, b, rising[2], api.ErrNone)
	wantPush(t, b, rising[2], api.OK)
	wantPush(t, b, rising[0], api.OK)
	wantPush(t, a, rising[4], api.OK)
	wantAll(t, a, rising[2], rising[4])
	wantAll(t, b, rising[0], rising[2])
	wantPop(t, b, rising[0])
	wantDrop(t, a, rising[2], api.OK)
	wantAll(t, a, rising[4])
	wantAll(t, b, rising[2])
	for _, r := range a.All() {
		wantPush(t, b, r, api.OK)
	}
	wantOut(t, a, rising[4])
	wantOut(t, b, rising[2], rising[4])
	// One that is full leaves the other one its room.
	a = full(t)
	wantPush(t, b, others[0], api.OK)
	wantPush(t, a, others[0], api.ErrFull)
	wantAll(t, b, others[0])
	wantAll(t, a, most()...)
}

// Asking changes nothing, and what was refused neither.
func TestAskingChangesNothing(t *testing.T) {
	q := filled(t, rising[1:6]...)
	for range 3 {
		wantPush(t, q, api.Ring{}, api.ErrRange)
		wantPush(t, q, rising[1], api.ErrClash)
		wantPush(t, q, rising[5], api.ErrClash)
		wantDrop(t, q, rising[0], api.ErrNone)
		wantDrop(t, q, rising[6], api.ErrNone)
		wantAll(t, q, rising[1:6]...)
	}
	wantOut(t, q, rising[1:6]...)
}

// The same calls of two queues, one behind the other, are answered in the same way.
func TestTheSameAgain(t *testing.T) {
	play := func() []api.Ring {
		var told []api.Ring
		q := filled(t, rising[4], rising[0], rising[6], rising[2])
		for _, r := range []api.Ring{rising[1], rising[5], rising[3]} {
			first, _ := q.Pop()
			told = append(told, first)
			wantPush(t, q, r, api.OK)
			told = append(told, q.All()...)
		}
		return told
	}
	if first, again := play(), play(); !slices.Equal(first, again) {
		t.Errorf("got %+v, then %+v", first, again)
	}
}
