package wheel_test

import (
	"slices"
	"testing"

	"chimework/api"
	"chimework/plain"
	"chimework/wheel"
)

// The numbers are written out, so that they are held against ones that the program did not work out.
const (
	lastTime  = 157785119
	mostRings = 400
	begin     = 66730000 // 2026-11-16 06:40
)

// wantError asks for an error, or for nil where that is OK.
func wantError(t *testing.T, what string, err error, want api.Errno) {
	t.Helper()
	if plain.Told(err) != want || (err == nil) != (want == api.OK) {
		t.Fatalf("%s: got %v, want %v", what, err, want)
	}
}

func wantAdd(t *testing.T, w *wheel.Wheel, r api.Ring, want api.Errno) {
	t.Helper()
	wantError(t, "Add", w.Add(r), want)
}

func wantDrop(t *testing.T, w *wheel.Wheel, r api.Ring, want api.Errno) {
	t.Helper()
	wantError(t, "Drop", w.Drop(r), want)
}

// wantGo asks for just these rings, told on the way to a time.
func wantGo(t *testing.T, w *wheel.Wheel, to int, want ...api.Ring) {
	t.Helper()
	got, err := w.Go(to)
	wantError(t, "Go", err, api.OK)
	if !slices.Equal(got, want) {
		t.Fatalf("Go to %d: got %+v, want %+v", to, got, want)
	}
}

// wantNoGo asks for an error, and nothing beside it.
func wantNoGo(t *testing.T, w *wheel.Wheel, to int, want api.Errno) {
	t.Helper()
	got, err := w.Go(to)
	wantError(t, "Go", err, want)
	if len(got) > 0 {
		t.Fatalf("Go to %d: got %+v beside its error", to, got)
	}
}

// wantAt asks a wheel for its time and for just these rings, in whatever order, by what takes none of them out.
func wantAt(t *testing.T, w *wheel.Wheel, now int, want ...api.Ring) {
	t.Helper()
	if got := w.Now(); got != now {
		t.Fatalf("Now: got %d, want %d", got, now)
	}
	if got := w.Len(); got != len(want) {
		t.Fatalf("Len: got %d, want %d", got, len(want))
	}
	least, told := 0, api.ErrNone
	if len(want) > 0 {
		least, told = slices.MinFunc(want, byFields).At, api.OK
	}
	got, err := w.Next()
	wantError(t, "Next", err, told)
	if got != least {
		t.Fatalf("Next: got %d, want %d", got, least)
	}
	for _, r := range want {
		wantAdd(t, w, r, api.ErrClash)
	}
}

// wantOut goes on to each ring's time, and the minute ahead of it, and asks for just these, each once.
func wantOut(t *testing.T, w *wheel.Wheel, want ...api.Ring) {
	t.Helper()
	wantAt(t, w, w.Now(), want...)
	for len(want) > 0 {
		at := want[0].At
		wantGo(t, w, at-1)
		wantAt(t, w, at-1, want...)
		many := 0
		for many < len(want) && want[many].At == at {
			many++
		}
		wantGo(t, w, at, want[:many]...)
		want = want[many:]
		wantAt(t, w, at, want...)
	}
	wantGo(t, w, lastTime)
	wantAt(t, w, lastTime)
}

// wantOutAtOnce goes on to the last time.
func wantOutAtOnce(t *testing.T, w *wheel.Wheel, want ...api.Ring) {
	t.Helper()
	wantAt(t, w, w.Now(), want...)
	wantGo(t, w, lastTime, want...)
	wantAt(t, w, lastTime)
}

// made makes a wheel at a time.
func made(t *testing.T, now int) *wheel.Wheel {
	t.Helper()
	w, err := wheel.New(now)
	wantError(t, "New", err, api.OK)
	if w == nil {
		t.Fatalf("New at %d: got none", now)
	}
	return w
}

// filled makes a wheel of rings, added as they are handed in.
func filled(t *testing.T, now int, list ...api.Ring) *wheel.Wheel {
	t.Helper()
	w := made(t, now)
	for _, r := range list {
		wantAdd(t, w, r, api.OK)
	}
	return w
}

// without one of a list.
func without(list []api.Ring, place int) []api.Ring {
	return slices.Delete(slices.Clone(list), place, place+1)
}

// rising are rings by Order: what a ring is told by first counts, though all behind it is the other way round.
var rising = []api.Ring{
	{At: 66730100, Name: "meet", Which: 66730170, Alarm: 1, Turn: 2},
	{At: 66730170, Name: "a", Which: 66730200, Alarm: 3, Turn: 5},
	{At: 66730170, Name: "ab", Which: 66730170, Alarm: 1, Turn: 2},
	{At: 66730170, Name: "ab", Which: 66730180, Alarm: 0, Turn: 1},
	{At: 66730170, Name: "ab", Which: 66730180, Alarm: 2, Turn: 0},
	{At: 66730170, Name: "ab", Which: 66730180, Alarm: 2, Turn: 4},
	{At: 66730171, Name: "", Which: 1, Alarm: 0, Turn: 0},
}

// eachOrder goes over all orders of a list.
func eachOrder(list []api.Ring, do func([]api.Ring)) {
	if len(list) == 0 {
		do(nil)
	}
	for i, r := range list {
		eachOrder(without(list, i), func(rest []api.Ring) { do(append([]api.Ring{r}, rest...)) })
	}
}

// Whatever was added is told by Order, each once, step by step as at once.
func TestEachOrderOfAdds(t *testing.T) {
	many := 0
	eachOrder(rising, func(list []api.Ring) {
		many++
		wantOut(t, filled(t, begin, list...), rising...)
		wantOutAtOnce(t, filled(t, begin, list...), rising...)
	})
	if many != 5040 {
		t.Errorf("%d orders were added", many)
	}
}

// Now, Len and Next behind each Add: in order, against the order, and mixed.
func TestBehindEachAdd(t *testing.T) {
	w := made(t, begin)
	wantAt(t, w, begin)
	for i, r := range rising {
		wantAdd(t, w, r, api.OK)
		wantAt(t, w, begin, rising[:i+1]...)
	}
	w = made(t, begin)
	for i := len(rising) - 1; i >= 0; i-- {
		wantAdd(t, w, rising[i], api.OK)
		wantAt(t, w, begin, rising[i:]...)
	}
	w = made(t, begin)
	var there []api.Ring
	for _, i := range []int{3, 6, 0, 4, 1, 5, 2} {
		wantAdd(t, w, rising[i], api.OK)
		there = append(there, rising[i])
		wantAt(t, w, begin, there...)
	}
	wantOut(t, w, rising...)
}

// Go by one minute, by several, and by as many as there are: all tell the same, each ring at its time.
func TestInStepsAsAtOnce(t *testing.T) {
	for _, step := range []int{1, 2, 3, 7, 59, 60, 63, 64, 65, 99, 100, 101, 170, 171, 172, 1440} {
		w := filled(t, begin, rising...)
		left := rising
		for now := begin; len(left) > 0; {
			now += step
			many := 0
			for many < len(left) && left[many].At <= now {
				many++
			}
			wantGo(t, w, now, left[:many]...)
			left = left[many:]
			wantAt(t, w, now, left...)
		}
		wantOutAtOnce(t, w)
	}
}

// Adds, drops and steps, one behind the other.
func TestOneBehindTheOther(t *testing.T) {
	w := made(t, begin)
	wantAdd(t, w, rising[4], api.OK)
	wantAdd(t, w, rising[0], api.OK)
	wantAt(t, w, begin, rising[0], rising[4])
	wantGo(t, w, 66730099)
	wantAt(t, w, 66730099, rising[0], rising[4])
	wantAdd(t, w, rising[6], api.OK)
	wantGo(t, w, 66730120, rising[0])
	wantAt(t, w, 66730120, rising[4], rising[6])
	wantAdd(t, w, rising[0], api.ErrState)
	wantAdd(t, w, rising[1], api.OK)
	wantAt(t, w, 66730120, rising[1], rising[4], rising[6])
	wantDrop(t, w, rising[4], api.OK)
	wantAt(t, w, 66730120, rising[1], rising[6])
	wantGo(t, w, 66730170, rising[1])
	wantAt(t, w, 66730170, rising[6])
	wantAdd(t, w, rising[4], api.ErrState)
	wantDrop(t, w, rising[6], api.OK)
	wantAt(t, w, 66730170)
	wantAdd(t, w, rising[6], api.OK)
	wantGo(t, w, 66730171, rising[6])
	wantOutAtOnce(t, w)
}

// Drop of the first, of the last and of each between, of wheels of each length.
func TestDropOfEach(t *testing.T) {
	for n := 1; n <= len(rising); n++ {
		for i := range n {
			w := filled(t, begin, rising[:n]...)
			wantDrop(t, w, rising[i], api.OK)
			wantOut(t, w, without(rising[:n], i)...)
			w = filled(t, begin, rising[:n]...)
			wantDrop(t, w, rising[i], api.OK)
			wantOutAtOnce(t, w, without(rising[:n], i)...)
		}
	}
}

// Drops in each order, some and all.
func TestDropsInEachOrder(t *testing.T) {
	few := rising[1:6]
	eachOrder(few, func(list []api.Ring) {
		for many := range len(list) + 1 {
			w := filled(t, begin, few...)
			left := slices.Clone(few)
			for _, r := range list[:many] {
				wantDrop(t, w, r, api.OK)
				left = without(left, slices.Index(left, r))
				wantAt(t, w, begin, left...)
				wantDrop(t, w, r, api.ErrNone)
				wantAt(t, w, begin, left...)
			}
			wantOut(t, w, left...)
		}
	})
}

// The numbers of the errors, written out.
func TestErrorsByNumber(t *testing.T) {
	w := filled(t, begin, rising[0])
	_, none := made(t, begin).Next()
	_, noTime := wheel.New(0)
	_, noGo := w.Go(0)
	_, back := w.Go(begin - 1)
	for _, c := range []struct {
		told error
		want int
	}{
		{noTime, 1}, {noGo, 1}, {back, 6}, {none, 5},
		{w.Add(api.Ring{}), 1}, {w.Add(api.Ring{At: begin}), 6}, {w.Add(rising[0]), 7}, {full(t).Add(rising[0]), 4},
		{w.Drop(rising[1]), 5}, {w.Add(rising[1]), 0}, {w.Drop(rising[1]), 0},
	} {
		if int(plain.Told(c.told)) != c.want {
			t.Errorf("got %v, want the error %d", c.told, c.want)
		}
	}
}
