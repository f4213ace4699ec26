package queue_test

import (
	"math/rand/v2"
	"slices"
	"testing"

	"chimework/api"
	"chimework/queue"
)

// most are as many rings as may be, by Order, with room for others between them.
func most() []api.Ring {
	var list []api.Ring
	for i := range mostRings {
		list = append(list, api.Ring{At: 1000 + i/4*10, Name: "meet", Which: 5, Alarm: i % 4 * 2, Turn: 1})
	}
	return list
}

func full(t *testing.T) *queue.Queue {
	t.Helper()
	return filled(t, most()...)
}

// others are ahead of all of most, behind all of them, and between them.
var others = []api.Ring{
	{At: 1}, {At: lastTime}, {At: 1000, Name: "meet", Which: 5, Turn: 0}, {At: 1500, Name: "meet", Which: 5, Alarm: 3, Turn: 1}, {At: 1990, Name: "meet", Which: 5, Alarm: 6, Turn: 2},
}

// As many as may be, pushed in order, against the order and mixed, and one more.
func TestMost(t *testing.T) {
	list := most()
	back := slices.Clone(list)
	slices.Reverse(back)
	mixed := slices.Clone(list)
	rand.New(rand.NewPCG(13, 2)).Shuffle(len(mixed), func(i, j int) { mixed[i], mixed[j] = mixed[j], mixed[i] })
	for _, pushed := range [][]api.Ring{list, back, mixed} {
		q := filled(t, pushed...)
		wantAll(t, q, list...)
		for _, r := range others {
			wantPush(t, q, r, api.ErrFull)
			wantAll(t, q, list...)
			wantDrop(t, q, r, api.ErrNone)
		}
		wantOut(t, q, list...)
	}
}

// The last one that has room, and none behind it.
func TestOneMore(t *testing.T) {
	list := most()
	for i, r := range list {
		q := filled(t, without(list, i)...)
		wantPush(t, q, r, api.OK)
		wantPush(t, q, others[3], api.ErrFull)
		wantAll(t, q, list...)
	}
	for _, r := range others {
		q := filled(t, list[1:]...)
		wantPush(t, q, r, api.OK)
		wantPush(t, q, list[0], api.ErrFull)
		want := append(slices.Clone(list[1:]), r)
		slices.SortFunc(want, byFields)
		wantAll(t, q, want...)
	}
}

// Of a queue that is full: a ring that is there clashes, and one whose At is no time is out of range.
func TestWhichErrorOfAFullOne(t *testing.T) {
	q := full(t)
	for _, r := range most() {
		wantPush(t, q, r, api.ErrClash)
		for _, n := range noTimes {
			r.At = n
			wantPush(t, q, r, api.ErrRange)
		}
	}
	for _, r := range others {
		wantPush(t, q, r, api.ErrFull)
	}
	wantAll(t, q, most()...)
}

// One more behind a Pop, and behind a Drop; what was refused is not there.
func TestRoomAgain(t *testing.T) {
	for _, r := range others {
		q := full(t)
		wantPush(t, q, r, api.ErrFull)
		wantPop(t, q, most()[0])
		wantAll(t, q, most()[1:]...)
		wantPush(t, q, r, api.OK)
		wantPush(t, q, r, api.ErrClash)
		wantPush(t, q, most()[0], api.ErrFull)
		wantDrop(t, q, r, api.OK)
		wantPush(t, q, most()[0], api.OK)
		wantPush(t, q, r, api.ErrFull)
		wantAll(t, q, most()...)
	}
	for _, i := range []int{0, 1, mostRings / 2, mostRings - 2, mostRings - 1} {
		q := full(t)
		wantDrop(t, q, most()[i], api.OK)
		wantAll(t, q, without(most(), i)...)
		wantPush(t, q, others[4], api.OK)
		wantPush(t, q, most()[i], api.ErrFull)
		wantDrop(t, q, most()[i], api.ErrNone)
		wantPush(t, q, others[4], api.ErrClash)
		wantOut(t, q, append(without(most(), i), others[4])...)
	}
}

// How many may be there is no matter of how many ever were.
func TestManyInAll(t *testing.T) {
	q := queue.New()
	for i := range 10 * mostRings {
		wantPush(t, q, api.Ring{At: i + 1}, api.OK)
		if i%2 == 0 {
			wantPop(t, q, api.Ring{At: i + 1})
		} else {
			wantDrop(t, q, api.Ring{At: i + 1}, api.OK)
		}
	}
	wantEmpty(t, q)
	for _, r := range most() {
		wantPush(t, q, r, api.OK)
	}
	wantPush(t, q, others[0], api.ErrFull)
	wantAll(t, q, most()...)
}
