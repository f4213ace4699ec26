package queue_test

import (
	"slices"
	"testing"

	"chimework/api"
	"chimework/plain"
	"chimework/queue"
)

// The numbers are written out, so that they are held against ones that the program did not work out.
const (
	lastTime  = 157785119
	mostRings = 400
)

// wantError asks for an error, or for nil where that is OK.
func wantError(t *testing.T, what string, err error, want api.Errno) {
	t.Helper()
	if plain.Told(err) != want || (err == nil) != (want == api.OK) {
		t.Fatalf("%s: got %v, want %v", what, err, want)
	}
}

// wantAll asks a queue for just these rings, by whatever takes none of them out.
func wantAll(t *testing.T, q *queue.Queue, want ...api.Ring) {
	t.Helper()
	if got := q.Len(); got != len(want) {
		t.Fatalf("Len: got %d, want %d", got, len(want))
	}
	if got := q.All(); !slices.Equal(got, want) {
		t.Fatalf("All: got %+v, want %+v", got, want)
	}
	first, told := api.Ring{}, api.ErrNone
	if len(want) > 0 {
		first, told = want[0], api.OK
	}
	got, err := q.Peek()
	wantError(t, "Peek", err, told)
	if got != first {
		t.Fatalf("Peek: got %+v, want %+v", got, first)
	}
}

func wantPush(t *testing.T, q *queue.Queue, r api.Ring, want api.Errno) {
	t.Helper()
	wantError(t, "Push", q.Push(r), want)
}

func wantDrop(t *testing.T, q *queue.Queue, r api.Ring, want api.Errno) {
	t.Helper()
	wantError(t, "Drop", q.Drop(r), want)
}

// wantPop asks for a ring.
func wantPop(t *testing.T, q *queue.Queue, want api.Ring) {
	t.Helper()
	got, err := q.Pop()
	wantError(t, "Pop", err, api.OK)
	if got != want {
		t.Fatalf("Pop: got %+v, want %+v", got, want)
	}
}

// wantNoPop asks for what comes of a queue that is empty.
func wantNoPop(t *testing.T, q *queue.Queue) {
	t.Helper()
	got, err := q.Pop()
	wantError(t, "Pop", err, api.ErrNone)
	if got != (api.Ring{}) {
		t.Fatalf("Pop: got %+v beside its error", got)
	}
}

// wantOut takes all rings out, and asks for just these, each once.
func wantOut(t *testing.T, q *queue.Queue, want ...api.Ring) {
	t.Helper()
	for i, r := range want {
		wantAll(t, q, want[i:]...)
		wantPop(t, q, r)
	}
	wantAll(t, q)
	wantNoPop(t, q)
}

// filled makes a queue of rings, pushed as they are handed in.
func filled(t *testing.T, list ...api.Ring) *queue.Queue {
	t.Helper()
	q := queue.New()
	for _, r := range list {
		wantPush(t, q, r, api.OK)
	}
	return q
}

// without one of a list.
func without(list []api.Ring, place int) []api.Ring {
	return slices.Delete(slices.Clone(list), place, place+1)
}

// rising are rings by Order: what a ring is told by first counts, though all behind it is the other way round.
var rising = []api.Ring{
	{At: 66730100, Name: "meet", Which: 66730170, Alarm: 1, Turn: 2},
	{At: 66730170, Name: "a", Which: 66730200, Alarm: 3, Turn: 5},
	{At: 66730170, Name: "ab", Which: 66730170, Alarm: 1, Turn: 2},
	{At: 66730170, Name: "ab", Which: 66730180, Alarm: 0, Turn: 1},
	{At: 66730170, Name: "ab", Which: 66730180, Alarm: 2, Turn: 0},
	{At: 66730170, Name: "ab", Which: 66730180, Alarm: 2, Turn: 4},
	{At: 66730171, Name: "", Which: 1, Alarm: 0, Turn: 0},
}

// eachOrder goes over all orders of a list.
func eachOrder(list []api.Ring, do func([]api.Ring)) {
	if len(list) == 0 {
		do(nil)
	}
	for i, r := range list {
		eachOrder(without(list, i), func(rest []api.Ring) { do(append([]api.Ring{r}, rest...)) })
	}
}

// Whatever was pushed comes out by Order, each once.
func TestEachOrderOfPushes(t *testing.T) {
	many := 0
	eachOrder(rising, func(list []api.Ring) {
		many++
		wantOut(t, filled(t, list...), rising...)
	})
	if many != 5040 {
		t.Errorf("%d orders were pushed", many)
	}
}

// All, Len and Peek behind each push: in order, against the order, and mixed.
func TestBehindEachPush(t *testing.T) {
	q := queue.New()
	for i, r := range rising {
		wantPush(t, q, r, api.OK)
		wantAll(t, q, rising[:i+1]...)
	}
	q = queue.New()
	for i := len(rising) - 1; i >= 0; i-- {
		wantPush(t, q, rising[i], api.OK)
		wantAll(t, q, rising[i:]...)
	}
	q = queue.New()
	var there []int
	for _, i := range []int{3, 6, 0, 4, 1, 5, 2} {
		wantPush(t, q, rising[i], api.OK)
		there = append(there, i)
		slices.Sort(there)
		var want []api.Ring
		for _, k := range there {
			want = append(want, rising[k])
		}
		wantAll(t, q, want...)
	}
}

// Pop and Peek behind pushes, pops and drops.
func TestOneBehindTheOther(t *testing.T) {
	q := queue.New()
	wantPush(t, q, rising[4], api.OK)
	wantPush(t, q, rising[2], api.OK)
	wantAll(t, q, rising[2], rising[4])
	wantPop(t, q, rising[2])
	wantAll(t, q, rising[4])
	wantPush(t, q, rising[6], api.OK)
	wantPush(t, q, rising[0], api.OK)
	wantPush(t, q, rising[5], api.OK)
	wantAll(t, q, rising[0], rising[4], rising[5], rising[6])
	wantDrop(t, q, rising[0], api.OK)
	wantAll(t, q, rising[4], rising[5], rising[6])
	wantPop(t, q, rising[4])
	wantDrop(t, q, rising[6], api.OK)
	wantAll(t, q, rising[5])
	wantPush(t, q, rising[1], api.OK)
	wantOut(t, q, rising[1], rising[5])
	wantPush(t, q, rising[3], api.OK)
	wantOut(t, q, rising[3])
}

// Drop of the first, of the last and of each between, of queues of each length.
func TestDropOfEach(t *testing.T) {
	for n := 1; n <= len(rising); n++ {
		for i := range n {
			q := filled(t, rising[:n]...)
			wantDrop(t, q, rising[i], api.OK)
			wantOut(t, q, without(rising[:n], i)...)
		}
	}
}

// Drops between pops, and all of it dropped, in each order.
func TestDropsInEachOrder(t *testing.T) {
	few := rising[1:6]
	eachOrder(few, func(list []api.Ring) {
		for many := range len(list) + 1 {
			q := filled(t, few...)
			left := slices.Clone(few)
			for _, r := range list[:many] {
				wantDrop(t, q, r, api.OK)
				left = without(left, slices.Index(left, r))
				wantAll(t, q, left...)
				wantDrop(t, q, r, api.ErrNone)
				wantAll(t, q, left...)
			}
			wantOut(t, q, left...)
		}
	})
}

// The numbers of the errors, written out.
func TestErrorsByNumber(t *testing.T) {
	q := filled(t, rising[0])
	_, none := queue.New().Pop()
	_, nothing := queue.New().Peek()
	for _, c := range []struct {
		told error
		want int
	}{
		{q.Push(api.Ring{}), 1}, {q.Push(rising[0]), 7}, {full(t).Push(rising[0]), 4},
		{q.Drop(rising[1]), 5}, {none, 5}, {nothing, 5}, {q.Push(rising[1]), 0}, {q.Drop(rising[1]), 0},
	} {
		if int(plain.Told(c.told)) != c.want {
			t.Errorf("got %v, want the error %d", c.told, c.want)
		}
	}
}
