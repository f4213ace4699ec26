package wheel_test

import (
	"slices"
	"testing"

	"chimework/api"
)

// aways are minutes: up to some, an hour, a day, a year, and years.
var aways = []int{1, 2, 59, 60, 61, 1439, 1440, 1441, 10080, 525600, 527040, 10 * 525600, 50 * 525949, 173 * 525949}

// farFrom a time are rings, by Order, two of each At, up to the last time.
func farFrom(now int) []api.Ring {
	var list []api.Ring
	for _, away := range aways {
		if now+away < lastTime {
			list = append(list, api.Ring{At: now + away, Name: "a", Which: 2}, api.Ring{At: now + away, Name: "b", Which: 1})
		}
	}
	if now < lastTime {
		list = append(list, api.Ring{At: lastTime, Name: "a", Which: 2}, api.Ring{At: lastTime, Name: "b", Which: 1})
	}
	return list
}

// Rings that are far, from the first time on, from today, and near the last time.
func TestFar(t *testing.T) {
	for _, now := range []int{1, 2, 63, 64, 4095, 4096, 262143, 1<<24 - 1, 1 << 24, begin, 1 << 26, 1<<27 - 1, lastTime - 525600, lastTime - 61, lastTime - 1, lastTime} {
		list := farFrom(now)
		back := slices.Clone(list)
		slices.Reverse(back)
		for _, added := range [][]api.Ring{list, back} {
			wantOut(t, filled(t, now, added...), list...)
			wantOutAtOnce(t, filled(t, now, added...), list...)
		}
		for i, r := range list {
			w := filled(t, now, list...)
			wantDrop(t, w, r, api.OK)
			wantDrop(t, w, r, api.ErrNone)
			wantOut(t, w, without(list, i)...)
		}
	}
}

// Each ring is told just once, at its time, whatever the steps are; a ring is found by Drop and Add behind each step.
func TestFarInSteps(t *testing.T) {
	for _, now := range []int{1, begin, lastTime - 3*525600} {
		list := farFrom(now)
		for _, step := range []int{1440 * 7, 43200, 65536, 262144, 525600, 1 << 20, 5256000, 1 << 24, 1<<24 + 1, 100000000} {
			w := filled(t, now, list...)
			left := list
			for at := now; at < lastTime; {
				at = min(at+step, lastTime)
				due := 0
				for due < len(left) && left[due].At <= at {
					due++
				}
				wantGo(t, w, at, left[:due]...)
				left = left[due:]
				wantAt(t, w, at, left...)
				if len(left) > 0 {
					wantDrop(t, w, left[0], api.OK)
					wantAdd(t, w, left[0], api.OK)
				}
			}
			wantAt(t, w, lastTime)
		}
	}
}

// Minute by minute through several days, with rings at each of many times.
func TestMinuteByMinute(t *testing.T) {
	for _, now := range []int{1, 4000, 1<<18 - 2000, 1<<24 - 2000, begin, lastTime - 6000} {
		var list []api.Ring
		for i := range 200 {
			list = append(list, api.Ring{At: now + 1 + i*i/10, Turn: i})
		}
		w := filled(t, now, list...)
		left := list
		for at := now + 1; at <= now+4200; at++ {
			due := 0
			for due < len(left) && left[due].At == at {
				due++
			}
			wantGo(t, w, at, left[:due]...)
			left = left[due:]
			if at%97 == 0 {
				wantAt(t, w, at, left...)
			}
		}
		wantAt(t, w, now+4200)
	}
}

// besidePowers are the times beside each power of 2, where whatever goes round by one begins anew.
func besidePowers() []int {
	list := []int{1, 2, lastTime - 1, lastTime}
	for power := 4; power < lastTime; power *= 2 {
		list = append(list, power-1, power, power+1)
	}
	slices.Sort(list)
	return slices.Compact(list)
}

// wantAlone asks for one ring of a wheel at a time that goes on to another one.
func wantAlone(t *testing.T, now, to int, r api.Ring) {
	t.Helper()
	w := filled(t, now, r)
	if r.At <= to {
		wantGo(t, w, to, r)
		wantAt(t, w, to)
		return
	}
	wantGo(t, w, to)
	wantAt(t, w, to, r)
	wantGo(t, w, r.At-1)
	wantAt(t, w, r.At-1, r)
	wantGo(t, w, r.At, r)
	wantAt(t, w, r.At)
}

// Each way from one of these times to another one, with a ring at each of them.
func TestEachWay(t *testing.T) {
	list := besidePowers()
	for i, now := range list {
		for _, to := range list[i:] {
			for _, at := range list[i+1:] {
				wantAlone(t, now, to, api.Ring{At: at, Name: "meet"})
			}
		}
	}
}

// All of these times at once, from each of them, in steps by each.
func TestAllTheWay(t *testing.T) {
	list := besidePowers()
	for i, now := range list {
		var all []api.Ring
		for _, at := range list[i+1:] {
			all = append(all, api.Ring{At: at, Name: "meet"})
		}
		wantOut(t, filled(t, now, all...), all...)
		for k := range all {
			w := filled(t, now, all...)
			wantGo(t, w, all[k].At, all[:k+1]...)
			wantOutAtOnce(t, w, all[k+1:]...)
		}
	}
}
