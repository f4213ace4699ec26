package queue_test

import (
	"math"
	"slices"
	"strings"
	"testing"

	"chimework/api"
	"chimework/queue"
)

// noTimes are none, up to the ends of int.
var noTimes = []int{
	math.MinInt, math.MinInt + 1, math.MinInt + lastTime, math.MinInt32, -lastTime, -66730170, -2, -1, 0,
	lastTime + 1, lastTime + 2, math.MaxInt32, math.MaxInt - lastTime, math.MaxInt - 1, math.MaxInt,
}

var numbersRising = []int{math.MinInt, math.MinInt + 1, math.MinInt32, -2, -1, 0, 1, 2, 9, 10, 66730170, lastTime, lastTime + 1, math.MaxInt32, math.MaxInt - 1, math.MaxInt}

var timesRising = []int{1, 2, 1439, 1440, 66730170, lastTime - 1, lastTime}

// Texts are bytes, and the name of a ring may be any.
var namesRising = []string{"", "\x00", "A", "Z", "a", "a\x00", "aa", "ab", "b", "meet", "meets", strings.Repeat("z", 1000), "é", "\xff", "\xff\x00"}

// fields of a ring, each with how many it may be, rising, and how it is set to one of them.
var fields = []struct {
	what string
	many int
	set  func(r *api.Ring, i int)
}{
	{"At", len(timesRising), func(r *api.Ring, i int) { r.At = timesRising[i] }},
	{"Name", len(namesRising), func(r *api.Ring, i int) { r.Name = namesRising[i] }},
	{"Which", len(numbersRising), func(r *api.Ring, i int) { r.Which = numbersRising[i] }},
	{"Alarm", len(numbersRising), func(r *api.Ring, i int) { r.Alarm = numbersRising[i] }},
	{"Turn", len(numbersRising), func(r *api.Ring, i int) { r.Turn = numbersRising[i] }},
}

// wantBoth asks for two rings of which the first is below.
func wantBoth(t *testing.T, low, high api.Ring) {
	t.Helper()
	for _, list := range [][]api.Ring{{low, high}, {high, low}} {
		q := filled(t, list[0])
		wantDrop(t, q, list[1], api.ErrNone)
		wantAll(t, q, list[0])
		wantPush(t, q, list[1], api.OK)
		wantPush(t, q, low, api.ErrClash)
		wantPush(t, q, high, api.ErrClash)
		wantAll(t, q, low, high)
		wantDrop(t, q, list[0], api.OK)
		wantDrop(t, q, list[0], api.ErrNone)
		wantAll(t, q, list[1])
		wantPush(t, q, list[0], api.OK)
		wantOut(t, q, low, high)
	}
}

// Rings that are the same but for one field, for each field.
func TestSameButForOne(t *testing.T) {
	for _, base := range []api.Ring{{At: 1}, rising[1], {At: lastTime, Name: "\xff", Which: math.MaxInt, Alarm: math.MinInt, Turn: -1}} {
		for _, f := range fields {
			var list []api.Ring
			for i := range f.many {
				r := base
				f.set(&r, i)
				for _, low := range list {
					wantBoth(t, low, r)
				}
				list = append(list, r)
			}
			wantOut(t, filled(t, list...), list...)
			back := slices.Clone(list)
			slices.Reverse(back)
			wantOut(t, filled(t, back...), list...)
		}
	}
}

// The first field that is another one counts, whatever is behind it.
func TestByTheFirstField(t *testing.T) {
	for k, f := range fields {
		for i := 1; i < f.many; i++ {
			low, high := rising[1], rising[1]
			f.set(&low, i-1)
			f.set(&high, i)
			for _, behind := range fields[k+1:] {
				behind.set(&low, behind.many-1)
				behind.set(&high, 0)
			}
			wantBoth(t, low, high)
		}
	}
}

// Drop of a ring that is not there but for one field, of queues of several.
func TestDropOfAnother(t *testing.T) {
	q := filled(t, rising...)
	for _, base := range rising {
		for _, f := range fields {
			for i := range f.many {
				r := base
				f.set(&r, i)
				if !slices.Contains(rising, r) {
					wantDrop(t, q, r, api.ErrNone)
				}
			}
		}
		for _, n := range noTimes {
			r := base
			r.At = n
			wantDrop(t, q, r, api.ErrNone)
		}
	}
	wantDrop(t, q, api.Ring{}, api.ErrNone)
	wantOut(t, q, rising...)
}

// An At that is no time, whatever else the ring has, and however often.
func TestNoTimes(t *testing.T) {
	for _, many := range []int{0, 1, len(rising)} {
		q := filled(t, rising[:many]...)
		for _, n := range noTimes {
			for _, r := range append([]api.Ring{{}}, rising...) {
				r.At = n
				wantPush(t, q, r, api.ErrRange)
				wantPush(t, q, r, api.ErrRange)
				wantDrop(t, q, r, api.ErrNone)
			}
			wantAll(t, q, rising[:many]...)
		}
		wantOut(t, q, rising[:many]...)
	}
}

// The first time and the last one, and what is no time beside them.
func TestFirstAndLastTime(t *testing.T) {
	q := queue.New()
	for _, at := range []int{lastTime + 1, lastTime, 0, 1, -1} {
		want := api.ErrRange
		if at == 1 || at == lastTime {
			want = api.OK
		}
		wantPush(t, q, api.Ring{At: at}, want)
	}
	wantOut(t, q, api.Ring{At: 1}, api.Ring{At: lastTime})
}

// wantEmpty asks each call of a queue that is empty, and a queue as any behind them.
func wantEmpty(t *testing.T, q *queue.Queue) {
	t.Helper()
	for range 2 {
		wantAll(t, q)
		wantNoPop(t, q)
		wantDrop(t, q, rising[0], api.ErrNone)
		wantDrop(t, q, api.Ring{}, api.ErrNone)
		wantPush(t, q, api.Ring{}, api.ErrRange)
	}
	wantAll(t, q)
	wantPush(t, q, rising[1], api.OK)
	wantPush(t, q, rising[0], api.OK)
	wantOut(t, q, rising[:2]...)
}

// A queue that is empty: at first, and behind pops and drops.
func TestEmpty(t *testing.T) {
	wantEmpty(t, queue.New())
	q := filled(t, rising...)
	wantOut(t, q, rising...)
	wantEmpty(t, q)
	q = filled(t, rising...)
	for _, r := range rising {
		wantDrop(t, q, r, api.OK)
	}
	wantEmpty(t, q)
}

// One ring alone.
func TestOneAlone(t *testing.T) {
	for _, r := range append([]api.Ring{{At: 1}, {At: lastTime}}, rising...) {
		wantOut(t, filled(t, r), r)
		q := filled(t, r)
		wantAll(t, q, r)
		wantDrop(t, q, r, api.OK)
		wantEmpty(t, q)
	}
}

// A ring that is pushed twice, and again behind its Pop or its Drop; a name is the same wherever it stands.
func TestPushedAgain(t *testing.T) {
	for n := 1; n <= len(rising); n++ {
		q := filled(t, rising[:n]...)
		for i, r := range rising[:n] {
			r.Name = string([]byte(r.Name))
			wantPush(t, q, r, api.ErrClash)
			wantPush(t, q, r, api.ErrClash)
			wantAll(t, q, rising[:n]...)
			wantDrop(t, q, r, api.OK)
			wantAll(t, q, without(rising[:n], i)...)
			wantPush(t, q, r, api.OK)
			wantPush(t, q, r, api.ErrClash)
			wantAll(t, q, rising[:n]...)
		}
		for range 3 {
			wantPop(t, q, rising[0])
			wantAll(t, q, rising[1:n]...)
			wantPush(t, q, rising[0], api.OK)
			wantPush(t, q, rising[0], api.ErrClash)
			wantAll(t, q, rising[:n]...)
		}
	}
}
