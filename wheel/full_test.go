package wheel_test

import (
	"math/rand/v2"
	"slices"
	"testing"

	"chimework/api"
	"chimework/wheel"
)

// fullAt is where the wheels of most are.
const fullAt = 900

// most are as many rings as may be, by Order, with room for others between them.
func most() []api.Ring {
	var list []api.Ring
	for i := range mostRings {
		list = append(list, api.Ring{At: 1000 + i/4*10, Name: "meet", Which: 5, Alarm: i % 4 * 2, Turn: 1})
	}
	return list
}

func full(t *testing.T) *wheel.Wheel {
	t.Helper()
	return filled(t, fullAt, most()...)
}

// others are ahead of all of most, behind all of them, and between them.
var others = []api.Ring{
	{At: fullAt + 1}, {At: lastTime}, {At: 1000, Name: "meet", Which: 5, Turn: 0}, {At: 1500, Name: "meet", Which: 5, Alarm: 3, Turn: 1}, {At: 1990, Name: "meet", Which: 5, Alarm: 6, Turn: 2},
}

// As many as may be, added in order, against the order and mixed, and one more.
func TestMost(t *testing.T) {
	list := most()
	back := slices.Clone(list)
	slices.Reverse(back)
	mixed := slices.Clone(list)
	rand.New(rand.NewPCG(14, 2)).Shuffle(len(mixed), func(i, j int) { mixed[i], mixed[j] = mixed[j], mixed[i] })
	for _, added := range [][]api.Ring{list, back, mixed} {
		w := filled(t, fullAt, added...)
		for _, r := range others {
			wantAdd(t, w, r, api.ErrFull)
			wantAt(t, w, fullAt, list...)
			wantDrop(t, w, r, api.ErrNone)
		}
		wantOut(t, w, list...)
		wantOutAtOnce(t, filled(t, fullAt, added...), list...)
	}
}

// As many as may be of one time, and as many as may be that are years apart.
func TestMostNearAndFar(t *testing.T) {
	var near, far []api.Ring
	for i := range mostRings {
		near = append(near, api.Ring{At: begin + 1, Turn: i})
		far = append(far, api.Ring{At: begin + (i+1)*227000, Turn: i})
	}
	for _, list := range [][]api.Ring{near, far} {
		w := filled(t, begin, list...)
		wantAdd(t, w, api.Ring{At: begin + 1, Turn: -1}, api.ErrFull)
		wantAdd(t, w, api.Ring{At: lastTime}, api.ErrFull)
		wantOutAtOnce(t, w, list...)
		wantOut(t, filled(t, begin, list...), list...)
	}
}

// The last one that has room, and none behind it.
func TestOneMore(t *testing.T) {
	list := most()
	for i, r := range list {
		w := filled(t, fullAt, without(list, i)...)
		wantAdd(t, w, r, api.OK)
		wantAdd(t, w, others[3], api.ErrFull)
		wantAt(t, w, fullAt, list...)
	}
	for _, r := range others {
		w := filled(t, fullAt, list[1:]...)
		wantAdd(t, w, r, api.OK)
		wantAdd(t, w, list[0], api.ErrFull)
		want := append(slices.Clone(list[1:]), r)
		slices.SortFunc(want, byFields)
		wantOutAtOnce(t, w, want...)
	}
}

// Of a wheel that is full: at no time, not above Now, there already, and none of them, in this order.
func TestWhichErrorOfAFullOne(t *testing.T) {
	w := full(t)
	for _, r := range most() {
		wantAdd(t, w, r, api.ErrClash)
		for _, n := range noTimes {
			r.At = n
			wantAdd(t, w, r, api.ErrRange)
		}
		for _, n := range []int{1, fullAt - 1, fullAt} {
			r.At = n
			wantAdd(t, w, r, api.ErrState)
		}
	}
	for _, r := range others {
		wantAdd(t, w, r, api.ErrFull)
	}
	wantAt(t, w, fullAt, most()...)
}

// A ring that was told is below Now, and is told so, though the wheel is full again.
func TestToldOfAFullOne(t *testing.T) {
	w := full(t)
	wantGo(t, w, 1000, most()[:4]...)
	want := most()[4:]
	for i := range 4 {
		r := api.Ring{At: 1001, Turn: i}
		wantAdd(t, w, r, api.OK)
		want = append(want, r)
	}
	for _, r := range most()[:4] {
		wantAdd(t, w, r, api.ErrState)
	}
	wantAdd(t, w, want[0], api.ErrClash)
	wantAdd(t, w, others[1], api.ErrFull)
	wantAt(t, w, 1000, want...)
}

// One more behind a Drop; what was refused is not there.
func TestRoomBehindADrop(t *testing.T) {
	for _, i := range []int{0, 1, mostRings / 2, mostRings - 2, mostRings - 1} {
		for _, r := range others {
			w := full(t)
			wantAdd(t, w, r, api.ErrFull)
			wantDrop(t, w, most()[i], api.OK)
			wantAt(t, w, fullAt, without(most(), i)...)
			wantAdd(t, w, r, api.OK)
			wantAdd(t, w, r, api.ErrClash)
			wantAdd(t, w, most()[i], api.ErrFull)
			wantDrop(t, w, most()[i], api.ErrNone)
			want := append(without(most(), i), r)
			slices.SortFunc(want, byFields)
			wantAt(t, w, fullAt, want...)
			wantOutAtOnce(t, w, want...)
		}
	}
}

// As many more behind a Go as it told, and none more.
func TestRoomBehindAGo(t *testing.T) {
	for _, told := range []int{0, 4, 8, 200, 396, 400} {
		w := full(t)
		to := 1000 + told/4*10 - 1
		wantGo(t, w, to, most()[:told]...)
		want := most()[told:]
		wantAt(t, w, to, want...)
		for i := range told {
			r := api.Ring{At: 2500 + i}
			wantAdd(t, w, r, api.OK)
			want = append(want, r)
		}
		wantAdd(t, w, api.Ring{At: 2499}, api.ErrFull)
		wantAt(t, w, to, want...)
		wantOut(t, w, want...)
	}
}

// How many may be there is no matter of how many ever were.
func TestManyInAll(t *testing.T) {
	w := made(t, begin)
	now := begin
	for i := range 10 * mostRings {
		r := api.Ring{At: now + 1 + i%130}
		wantAdd(t, w, r, api.OK)
		if i%2 == 0 {
			wantGo(t, w, r.At, r)
			now = r.At
		} else {
			wantDrop(t, w, r, api.OK)
		}
	}
	wantAt(t, w, now)
	var list []api.Ring
	for i := range mostRings {
		list = append(list, api.Ring{At: now + 1 + i})
		wantAdd(t, w, list[i], api.OK)
	}
	wantAdd(t, w, api.Ring{At: lastTime}, api.ErrFull)
	wantOutAtOnce(t, w, list...)
}
