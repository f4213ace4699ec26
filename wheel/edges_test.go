package wheel_test

import (
	"math"
	"slices"
	"strings"
	"testing"

	"chimework/api"
	"chimework/wheel"
)

// noTimes are none, up to the ends of int.
var noTimes = []int{
	math.MinInt, math.MinInt + 1, math.MinInt + lastTime, math.MinInt32, -lastTime, -begin, -64, -63, -2, -1, 0,
	lastTime + 1, lastTime + 2, 1 << 28, 1 << 30, 1<<30 + begin, math.MaxInt32, 1 << 36, math.MaxInt - lastTime, math.MaxInt - 1, math.MaxInt,
}

var numbersRising = []int{math.MinInt, math.MinInt + 1, math.MinInt32, -2, -1, 0, 1, 2, 9, 10, begin, lastTime, lastTime + 1, math.MaxInt32, math.MaxInt - 1, math.MaxInt}

var timesRising = []int{begin + 1, begin + 2, begin + 60, begin + 1440, begin + 1441, 100000000, lastTime - 1, lastTime}

// Texts are bytes, and the name of a ring may be any.
var namesRising = []string{"", "\x00", "A", "Z", "a", "a\x00", "aa", "ab", "b", "meet", "meets", strings.Repeat("z", 1000), "é", "\xff", "\xff\x00"}

// fields of a ring, each with how many it may be, rising, and how it is set to one of them.
var fields = []struct {
	what string
	many int
	set  func(r *api.Ring, i int)
}{
	{"At", len(timesRising), func(r *api.Ring, i int) { r.At = timesRising[i] }},
	{"Name", len(namesRising), func(r *api.Ring, i int) { r.Name = namesRising[i] }},
	{"Which", len(numbersRising), func(r *api.Ring, i int) { r.Which = numbersRising[i] }},
	{"Alarm", len(numbersRising), func(r *api.Ring, i int) { r.Alarm = numbersRising[i] }},
	{"Turn", len(numbersRising), func(r *api.Ring, i int) { r.Turn = numbersRising[i] }},
}

// wantBoth asks for two rings of which the first is below.
func wantBoth(t *testing.T, low, high api.Ring) {
	t.Helper()
	for _, list := range [][]api.Ring{{low, high}, {high, low}} {
		w := filled(t, begin, list[0])
		wantDrop(t, w, list[1], api.ErrNone)
		wantAt(t, w, begin, list[0])
		wantAdd(t, w, list[1], api.OK)
		wantAt(t, w, begin, low, high)
		wantDrop(t, w, list[0], api.OK)
		wantDrop(t, w, list[0], api.ErrNone)
		wantAt(t, w, begin, list[1])
		wantAdd(t, w, list[0], api.OK)
		wantOut(t, w, low, high)
		wantOutAtOnce(t, filled(t, begin, list...), low, high)
	}
}

// Rings that are the same but for one field, for each field.
func TestSameButForOne(t *testing.T) {
	for _, base := range []api.Ring{{At: begin + 1}, rising[1], {At: lastTime, Name: "\xff", Which: math.MaxInt, Alarm: math.MinInt, Turn: -1}} {
		for _, f := range fields {
			var list []api.Ring
			for i := range f.many {
				r := base
				f.set(&r, i)
				for _, low := range list {
					wantBoth(t, low, r)
				}
				list = append(list, r)
			}
			wantOut(t, filled(t, begin, list...), list...)
			back := slices.Clone(list)
			slices.Reverse(back)
			wantOut(t, filled(t, begin, back...), list...)
			wantOutAtOnce(t, filled(t, begin, back...), list...)
		}
	}
}

// The first field that is another one counts, whatever is behind it.
func TestByTheFirstField(t *testing.T) {
	for k, f := range fields {
		for i := 1; i < f.many; i++ {
			low, high := rising[1], rising[1]
			f.set(&low, i-1)
			f.set(&high, i)
			for _, behind := range fields[k+1:] {
				behind.set(&low, behind.many-1)
				behind.set(&high, 0)
			}
			wantBoth(t, low, high)
		}
	}
}

// Drop of a ring that is not there but for one field, of wheels of several.
func TestDropOfAnother(t *testing.T) {
	w := filled(t, begin, rising...)
	for _, base := range rising {
		for _, f := range fields {
			for i := range f.many {
				r := base
				f.set(&r, i)
				if !slices.Contains(rising, r) {
					wantDrop(t, w, r, api.ErrNone)
				}
			}
		}
		for _, n := range append([]int{1, begin - 1, begin}, noTimes...) {
			r := base
			r.At = n
			wantDrop(t, w, r, api.ErrNone)
		}
	}
	wantDrop(t, w, api.Ring{}, api.ErrNone)
	wantOut(t, w, rising...)
}

// A wheel is at a time, from the first to the last one, or there is none.
func TestNew(t *testing.T) {
	for _, now := range []int{1, 2, 63, 64, 1439, 1440, begin, lastTime - 1, lastTime} {
		wantEmpty(t, made(t, now), now)
	}
	for _, now := range noTimes {
		w, err := wheel.New(now)
		wantError(t, "New", err, api.ErrRange)
		if w != nil {
			t.Errorf("New at %d: got a wheel beside its error", now)
		}
	}
}

// An Add at Now, below it, and above it.
func TestAddBesideNow(t *testing.T) {
	for _, now := range []int{1, 2, 63, 64, 65, 1440, begin, 1 << 24, lastTime - 1, lastTime} {
		w := made(t, now)
		for _, at := range []int{1, now / 2, now - 64, now - 1, now} {
			if at >= 1 {
				wantAdd(t, w, api.Ring{At: at, Name: "meet"}, api.ErrState)
				wantDrop(t, w, api.Ring{At: at, Name: "meet"}, api.ErrNone)
			}
		}
		wantAt(t, w, now)
		above := api.Ring{At: now + 1, Name: "meet"}
		if now == lastTime {
			wantAdd(t, w, above, api.ErrRange)
			wantAt(t, w, now)
			continue
		}
		wantAdd(t, w, above, api.OK)
		wantAt(t, w, now, above)
		wantGo(t, w, now)
		wantGo(t, w, now+1, above)
		wantAdd(t, w, above, api.ErrState)
		wantAt(t, w, now+1)
	}
}

// The first time and the last one, and what is no time beside them.
func TestFirstAndLastTime(t *testing.T) {
	w := made(t, 1)
	wantAdd(t, w, api.Ring{At: lastTime + 1}, api.ErrRange)
	wantAdd(t, w, api.Ring{At: lastTime}, api.OK)
	wantAdd(t, w, api.Ring{At: 0}, api.ErrRange)
	wantAdd(t, w, api.Ring{At: 1}, api.ErrState)
	wantAdd(t, w, api.Ring{At: 2}, api.OK)
	wantAdd(t, w, api.Ring{At: -1}, api.ErrRange)
	wantOut(t, w, api.Ring{At: 2}, api.Ring{At: lastTime})
	wantAdd(t, w, api.Ring{At: lastTime}, api.ErrState)
	wantAdd(t, w, api.Ring{At: lastTime + 1}, api.ErrRange)
	wantNoGo(t, w, lastTime+1, api.ErrRange)
	wantNoGo(t, w, lastTime-1, api.ErrState)
	wantEmpty(t, w, lastTime)
}

// An At that is no time, which is not above Now or far above it, whatever else the ring has, and however often.
func TestAddAtNoTime(t *testing.T) {
	for _, many := range []int{0, 1, len(rising)} {
		w := filled(t, begin, rising[:many]...)
		for _, n := range noTimes {
			for _, r := range append([]api.Ring{{}}, rising...) {
				r.At = n
				wantAdd(t, w, r, api.ErrRange)
				wantAdd(t, w, r, api.ErrRange)
				wantDrop(t, w, r, api.ErrNone)
			}
			wantAt(t, w, begin, rising[:many]...)
		}
		wantOut(t, w, rising[:many]...)
	}
}

// Go to no time, and back: the wheel is as it was.
func TestGoThatIsNone(t *testing.T) {
	for _, now := range []int{begin, 66730120, 66730170, 66730171} {
		w := filled(t, begin, rising...)
		_, err := w.Go(now)
		wantError(t, "Go", err, api.OK)
		left := slices.DeleteFunc(slices.Clone(rising), func(r api.Ring) bool { return r.At <= now })
		for _, to := range noTimes {
			wantNoGo(t, w, to, api.ErrRange)
			wantAt(t, w, now, left...)
		}
		for _, to := range []int{1, 2, 64, now / 2, now - 1440, now - 64, now - 2, now - 1} {
			wantNoGo(t, w, to, api.ErrState)
			wantAt(t, w, now, left...)
		}
		wantOut(t, w, left...)
	}
}

// Go to Now itself tells nothing, however often: what is there is above it.
func TestGoToNow(t *testing.T) {
	for now := begin; now < begin+200; now++ {
		next := api.Ring{At: now + 1}
		w := filled(t, now, next)
		for range 3 {
			wantGo(t, w, now)
			wantAt(t, w, now, next)
		}
		wantGo(t, w, now+1, next)
		wantGo(t, w, now+1)
		wantAt(t, w, now+1)
	}
}

// Go to the minute at which a ring is, to the one ahead of it, and to the one behind it.
func TestGoBesideARing(t *testing.T) {
	for _, away := range []int{1, 2, 3, 60, 63, 64, 65, 1440, 4095, 4096, 4097, 525600} {
		for from := begin; from < begin+130; from++ {
			r := api.Ring{At: from + away, Name: "meet"}
			w := filled(t, from, r)
			wantGo(t, w, r.At-1)
			wantAt(t, w, r.At-1, r)
			wantGo(t, w, r.At, r)
			wantAt(t, w, r.At)
			w = filled(t, from, r)
			wantGo(t, w, r.At, r)
			wantGo(t, w, r.At)
			w = filled(t, from, r)
			wantGo(t, w, r.At+1, r)
			wantAt(t, w, r.At+1)
		}
	}
}

// wantEmpty asks each call of a wheel that is empty, and a wheel as any behind them.
func wantEmpty(t *testing.T, w *wheel.Wheel, now int) {
	t.Helper()
	for range 2 {
		wantAt(t, w, now)
		wantDrop(t, w, rising[0], api.ErrNone)
		wantDrop(t, w, api.Ring{}, api.ErrNone)
		wantDrop(t, w, api.Ring{At: now}, api.ErrNone)
		wantDrop(t, w, api.Ring{At: lastTime}, api.ErrNone)
		wantAdd(t, w, api.Ring{}, api.ErrRange)
		wantAdd(t, w, api.Ring{At: now}, api.ErrState)
		wantGo(t, w, now)
		wantNoGo(t, w, now-1, backError(now-1))
		wantNoGo(t, w, -1, api.ErrRange)
	}
	if now > lastTime-2 {
		return
	}
	near, far := api.Ring{At: now + 1}, api.Ring{At: lastTime, Name: "meet"}
	wantAdd(t, w, far, api.OK)
	wantAdd(t, w, near, api.OK)
	wantOut(t, w, near, far)
}

// backError is what a Go to below Now is told.
func backError(to int) api.Errno {
	if to < 1 {
		return api.ErrRange
	}
	return api.ErrState
}

// A wheel that is empty: at first, and behind steps and drops.
func TestEmpty(t *testing.T) {
	wantEmpty(t, made(t, begin), begin)
	w := filled(t, begin, rising...)
	wantGo(t, w, begin+1000, rising...)
	wantEmpty(t, w, begin+1000)
	w = filled(t, begin, rising...)
	for _, r := range rising {
		wantDrop(t, w, r, api.OK)
	}
	wantEmpty(t, w, begin)
}

// A ring that is added twice, and again behind its Drop; a name is the same wherever it stands.
func TestAddedAgain(t *testing.T) {
	for n := 1; n <= len(rising); n++ {
		w := filled(t, begin, rising[:n]...)
		for i, r := range rising[:n] {
			r.Name = string([]byte(r.Name))
			wantAdd(t, w, r, api.ErrClash)
			wantAdd(t, w, r, api.ErrClash)
			wantAt(t, w, begin, rising[:n]...)
			wantDrop(t, w, r, api.OK)
			wantAt(t, w, begin, without(rising[:n], i)...)
			wantAdd(t, w, r, api.OK)
			wantAdd(t, w, r, api.ErrClash)
			wantAt(t, w, begin, rising[:n]...)
		}
		wantOut(t, w, rising[:n]...)
	}
}

// A ring that is told is gone: it can neither be dropped nor come again, but one that is later can.
func TestToldIsGone(t *testing.T) {
	w := filled(t, begin, rising...)
	wantGo(t, w, 66730170, rising[:6]...)
	for _, r := range rising[:6] {
		wantDrop(t, w, r, api.ErrNone)
		wantAdd(t, w, r, api.ErrState)
	}
	wantAt(t, w, 66730170, rising[6])
	var later []api.Ring
	for _, r := range rising[1:6] {
		r.At += 30
		wantAdd(t, w, r, api.OK)
		later = append(later, r)
	}
	wantOut(t, w, append([]api.Ring{rising[6]}, later...)...)
}
