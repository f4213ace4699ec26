package wheel_test

import (
	"math/rand/v2"
	"slices"
	"strings"
	"testing"

	"chimework/api"
	"chimework/wheel"
)

// byFields says chapter 10's Order, field by field.
func byFields(a, b api.Ring) int {
	if a.At != b.At {
		return slices.Compare([]int{a.At}, []int{b.At})
	}
	if a.Name != b.Name {
		return strings.Compare(a.Name, b.Name)
	}
	return slices.Compare([]int{a.Which, a.Alarm, a.Turn}, []int{b.Which, b.Alarm, b.Turn})
}

// pile of rings at a time says H1, word by word, without any slots.
type pile struct {
	now  int
	list []api.Ring
}

func isTime(n int) bool { return n >= 1 && n <= lastTime }

func (p *pile) add(r api.Ring) api.Errno {
	switch {
	case !isTime(r.At):
		return api.ErrRange
	case r.At <= p.now:
		return api.ErrState
	case slices.Contains(p.list, r):
		return api.ErrClash
	case len(p.list) == mostRings:
		return api.ErrFull
	}
	p.list = append(p.list, r)
	return api.OK
}

func (p *pile) drop(r api.Ring) api.Errno {
	if !slices.Contains(p.list, r) {
		return api.ErrNone
	}
	p.list = without(p.list, slices.Index(p.list, r))
	return api.OK
}

func (p *pile) goOn(to int) ([]api.Ring, api.Errno) {
	switch {
	case !isTime(to):
		return nil, api.ErrRange
	case to < p.now:
		return nil, api.ErrState
	}
	var due, left []api.Ring
	for _, r := range p.list {
		if r.At <= to {
			due = append(due, r)
		} else {
			left = append(left, r)
		}
	}
	p.now, p.list = to, left
	slices.SortFunc(due, byFields)
	return due, api.OK
}

// wantGoOf goes on with both.
func wantGoOf(t *testing.T, w *wheel.Wheel, p *pile, to int) api.Errno {
	t.Helper()
	due, told := p.goOn(to)
	if told != api.OK {
		wantNoGo(t, w, to, told)
	} else {
		wantGo(t, w, to, due...)
	}
	return told
}

// Each row of five calls on rings of three times, of which one has two.
func TestEachRowOfCalls(t *testing.T) {
	near, same, later, none := rising[2], rising[2], rising[2], rising[2]
	same.Turn, later.At, none.At = 0, near.At+64, 0
	var calls []func(*wheel.Wheel, *pile)
	for _, r := range []api.Ring{near, same, later, none} {
		calls = append(calls, func(w *wheel.Wheel, p *pile) { wantAdd(t, w, r, p.add(r)) })
	}
	for _, r := range []api.Ring{near, later} {
		calls = append(calls, func(w *wheel.Wheel, p *pile) { wantDrop(t, w, r, p.drop(r)) })
	}
	for _, to := range []int{near.At - 1, near.At, later.At - 1, later.At, lastTime + 1} {
		calls = append(calls, func(w *wheel.Wheel, p *pile) { wantGoOf(t, w, p, to) })
	}
	rows := 1
	for range 5 {
		rows *= len(calls)
	}
	for row := range rows {
		w, p := made(t, begin), &pile{now: begin}
		for range 5 {
			calls[row%len(calls)](w, p)
			row /= len(calls)
			wantAt(t, w, p.now, p.list...)
		}
	}
}

// drawAway draws minutes, as often few as many, now and then below 0.
func drawAway(random *rand.Rand, bits int) int {
	away := random.IntN(1 << random.IntN(bits+1))
	if random.IntN(20) == 0 {
		return -away
	}
	return away
}

// drawRing, one of few if it is to be one that may be there already.
func drawRing(random *rand.Rand, now, bits int) api.Ring {
	at := now + drawAway(random, bits)
	if random.IntN(20) == 0 {
		few := []int{-1, 0, 1, now, now + 1, lastTime - 1, lastTime, lastTime + 1}
		at = few[random.IntN(len(few))]
	}
	return api.Ring{At: at, Name: []string{"", "a", "ab", "b"}[random.IntN(4)], Which: random.IntN(2) - 1, Alarm: random.IntN(2), Turn: random.IntN(2)}
}

// holdDrawn draws calls on a wheel, of which so many in ten add; it counts what they told.
func holdDrawn(t *testing.T, random *rand.Rand, steps, adds, bits int, counts map[api.Errno]int) {
	t.Helper()
	now := 1 + random.IntN(lastTime)
	w, p := made(t, now), &pile{now: now}
	for range steps {
		r := drawRing(random, p.now, bits)
		if len(p.list) > 0 && random.IntN(3) == 0 {
			r = p.list[random.IntN(len(p.list))]
		}
		switch n := random.IntN(10); {
		case n < adds:
			want := p.add(r)
			counts[want]++
			wantAdd(t, w, r, want)
		case n%2 == 0:
			to := p.now + drawAway(random, bits)
			if random.IntN(3) == 0 {
				to = r.At - random.IntN(2)
			}
			counts[wantGoOf(t, w, p, to)]++
		default:
			want := p.drop(r)
			counts[want]++
			wantDrop(t, w, r, want)
		}
		wantAt(t, w, p.now, p.list...)
	}
	wantOut(t, w, slices.SortedFunc(slices.Values(p.list), byFields)...)
}

// Calls that are drawn, always the same, against rings that lie in no slots.
func TestDrawn(t *testing.T) {
	random := rand.New(rand.NewPCG(14, 1))
	counts := map[api.Errno]int{}
	for i := range 3000 {
		holdDrawn(t, random, 60, 4+random.IntN(4), 3+i%25, counts)
	}
	for range 5 {
		holdDrawn(t, random, 1500, 9, 26, counts)
	}
	// The draw is of no use if little comes of it.
	for _, told := range []api.Errno{api.OK, api.ErrRange, api.ErrState, api.ErrClash, api.ErrFull, api.ErrNone} {
		if counts[told] < 100 {
			t.Errorf("%v was told %d times", told, counts[told])
		}
	}
}
