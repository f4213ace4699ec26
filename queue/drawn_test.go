package queue_test

import (
	"math/rand/v2"
	"slices"
	"strings"
	"testing"

	"chimework/api"
	"chimework/queue"
)

// byFields says chapter 10's Order, field by field.
func byFields(a, b api.Ring) int {
	if a.At != b.At {
		return slices.Compare([]int{a.At}, []int{b.At})
	}
	if a.Name != b.Name {
		return strings.Compare(a.Name, b.Name)
	}
	return slices.Compare([]int{a.Which, a.Alarm, a.Turn}, []int{b.Which, b.Alarm, b.Turn})
}

// pile of rings says Q1, word by word, without any order of its own.
type pile struct{ list []api.Ring }

func (p *pile) push(r api.Ring) api.Errno {
	switch {
	case r.At < 1 || r.At > lastTime:
		return api.ErrRange
	case slices.Contains(p.list, r):
		return api.ErrClash
	case len(p.list) == mostRings:
		return api.ErrFull
	}
	p.list = append(p.list, r)
	return api.OK
}

func (p *pile) drop(r api.Ring) api.Errno {
	if !slices.Contains(p.list, r) {
		return api.ErrNone
	}
	p.list = without(p.list, slices.Index(p.list, r))
	return api.OK
}

func (p *pile) sorted() []api.Ring { return slices.SortedFunc(slices.Values(p.list), byFields) }

// wantPopOf takes the first one out of both.
func wantPopOf(t *testing.T, q *queue.Queue, p *pile) {
	t.Helper()
	if len(p.list) == 0 {
		wantNoPop(t, q)
		return
	}
	first := slices.MinFunc(p.list, byFields)
	wantPop(t, q, first)
	p.drop(first)
}

// Each row of six calls on three rings that are the same but for one field, and one that is at no time.
func TestEachRowOfCalls(t *testing.T) {
	low, high, other, none := rising[2], rising[2], rising[2], rising[2]
	low.Turn, high.Name, none.At = 0, "b", 0
	calls := []func(*queue.Queue, *pile){func(q *queue.Queue, p *pile) { wantPopOf(t, q, p) }}
	for _, r := range []api.Ring{low, high, other, none} {
		calls = append(calls, func(q *queue.Queue, p *pile) { wantPush(t, q, r, p.push(r)) })
	}
	for _, r := range []api.Ring{low, high, other} {
		calls = append(calls, func(q *queue.Queue, p *pile) { wantDrop(t, q, r, p.drop(r)) })
	}
	rows := 1
	for range 6 {
		rows *= len(calls)
	}
	for row := range rows {
		q, p := queue.New(), &pile{}
		for range 6 {
			calls[row%len(calls)](q, p)
			row /= len(calls)
			wantAll(t, q, p.sorted()...)
		}
	}
}

// drawRing, one of few if it is to be one that may be there already.
func drawRing(random *rand.Rand, few int) api.Ring {
	one := func(list ...int) int { return list[random.IntN(len(list))] }
	at := 66730170 + random.IntN(few)
	if random.IntN(20) == 0 {
		at = one(-1, 0, 1, 2, lastTime-1, lastTime, lastTime+1, 1+random.IntN(lastTime))
	}
	return api.Ring{At: at, Name: []string{"", "a", "ab", "b"}[random.IntN(4)], Which: one(0, 66730170, -1), Alarm: random.IntN(2), Turn: random.IntN(2)}
}

// holdDrawn draws calls on a queue, of which so many in ten push; it counts what they told.
func holdDrawn(t *testing.T, random *rand.Rand, few, steps, pushes int, counts map[api.Errno]int) {
	t.Helper()
	q, p := queue.New(), &pile{}
	for range steps {
		r := drawRing(random, few)
		if len(p.list) > 0 && random.IntN(3) == 0 {
			r = p.list[random.IntN(len(p.list))]
		}
		switch n := random.IntN(10); {
		case n < pushes:
			want := p.push(r)
			counts[want]++
			wantPush(t, q, r, want)
		case n%2 == 0:
			wantPopOf(t, q, p)
		default:
			want := p.drop(r)
			counts[want]++
			wantDrop(t, q, r, want)
		}
		wantAll(t, q, p.sorted()...)
	}
	wantOut(t, q, p.sorted()...)
}

// Calls that are drawn, always the same, against rings that lie in no order.
func TestDrawn(t *testing.T) {
	random := rand.New(rand.NewPCG(13, 1))
	counts := map[api.Errno]int{}
	for range 400 {
		holdDrawn(t, random, 1+random.IntN(4), 60, 4+random.IntN(3), counts)
	}
	for range 5 {
		holdDrawn(t, random, 1000, 1500, 9, counts)
	}
	// The draw is of no use if little comes of it.
	for _, told := range []api.Errno{api.OK, api.ErrRange, api.ErrClash, api.ErrFull, api.ErrNone} {
		if counts[told] < 100 {
			t.Errorf("%v was told %d times", told, counts[told])
		}
	}
}
