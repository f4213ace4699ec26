package busy_test

import (
	"math/rand/v2"
	"slices"
	"testing"

	"chimework/api"
)

func isTime(n int) bool { return n >= 1 && n <= lastTime }

// faultOf one says B1's errors, word by word.
func faultOf(b api.Busy) api.Errno {
	switch {
	case !isTime(b.From) || !isTime(b.To):
		return api.ErrRange
	case b.To < b.From:
		return api.ErrShape
	}
	return api.OK
}

// faultOfAll says what is wrong with a list.
func faultOfAll(list []api.Busy) api.Errno {
	if len(list) > mostBusy {
		return api.ErrFull
	}
	for _, b := range list {
		if told := faultOf(b); told != api.OK {
			return told
		}
	}
	return api.OK
}

// firstOf several errors.
func firstOf(told ...api.Errno) api.Errno {
	for _, e := range told {
		if e != api.OK {
			return e
		}
	}
	return api.OK
}

// runs goes over the minutes of a stretch, one by one, and makes one of all that stand side by side.
func runs(from, to int, is func(minute int) bool) []api.Busy {
	var list []api.Busy
	for m := from; m < to; m++ {
		if !is(m) {
			continue
		}
		if len(list) > 0 && list[len(list)-1].To == m {
			list[len(list)-1].To++
		} else {
			list = append(list, api.Busy{From: m, To: m + 1})
		}
	}
	return list
}

// reach tells the least From and the most To of lists that are right.
func reach(lists ...[]api.Busy) (int, int) {
	from, to := lastTime, 1
	for _, b := range slices.Concat(lists...) {
		from, to = min(from, b.From), max(to, b.To)
	}
	return from, to
}

// slotOf tells the first minute of a stretch from which on so many are free, and whether there is one.
func slotOf(from, to, length int, isFree func(minute int) bool) (int, bool) {
	many := 0
	for m := from; m < to; m++ {
		if !isFree(m) {
			many = 0
			continue
		}
		many++
		if many == length {
			return m - length + 1, true
		}
	}
	return 0, false
}

// wantNormAsMinutes holds Norm and Total against what the minutes say.
func wantNormAsMinutes(t *testing.T, list []api.Busy) {
	t.Helper()
	if told := faultOfAll(list); told != api.OK {
		wantListRefused(t, list, told)
		return
	}
	from, to := reach(list)
	isTaken := func(m int) bool { return holding(list, m) > 0 }
	want := runs(from, to, isTaken)
	wantNorm(t, list, want)
	many := 0
	for m := from; m < to; m++ {
		if isTaken(m) {
			many++
		}
	}
	wantTotal(t, list, many)
}

// wantJoinAsMinutes holds Join against what the minutes say.
func wantJoinAsMinutes(t *testing.T, a, b []api.Busy) {
	t.Helper()
	both := slices.Concat(a, b)
	told := firstOf(faultOfAll(a), faultOfAll(b))
	if told == api.OK && len(both) > mostBusy {
		told = api.ErrFull
	}
	if told != api.OK {
		wantNoJoin(t, a, b, told)
		return
	}
	from, to := reach(a, b)
	wantJoin(t, a, b, runs(from, to, func(m int) bool { return holding(both, m) > 0 }))
}

// wantFreeAsMinutes holds Free and Slot against what the minutes say.
func wantFreeAsMinutes(t *testing.T, list []api.Busy, from, to int, lengths ...int) {
	t.Helper()
	told := firstOf(faultOfAll(list), faultOf(api.Busy{From: from, To: to}))
	isFree := func(m int) bool { return holding(list, m) == 0 }
	if told != api.OK {
		wantNoFree(t, list, from, to, told)
	} else {
		wantFree(t, list, from, to, runs(from, to, isFree))
	}
	for _, length := range lengths {
		if told != api.OK {
			wantNoSlot(t, list, from, to, length, told)
			continue
		}
		if length < 1 || length > longest {
			wantNoSlot(t, list, from, to, length, api.ErrRange)
		} else if at, is := slotOf(from, to, length, isFree); is {
			wantSlot(t, list, from, to, length, at)
		} else {
			wantNoSlot(t, list, from, to, length, api.ErrNone)
		}
	}
}

// between makes all of which From and To are from one number to another one, wrong ones too.
func between(least, most int) []api.Busy {
	var list []api.Busy
	for from := least; from <= most; from++ {
		for to := least; to <= most; to++ {
			list = append(list, api.Busy{From: from, To: to})
		}
	}
	return list
}

// Each list of up to three on a few times, of each stretch, at both ends of all times.
func TestEachSmallList(t *testing.T) {
	for _, least := range []int{0, begin, lastTime - 4} {
		all := between(least, least+5)
		wantNormAsMinutes(t, nil)
		for _, a := range all {
			wantNormAsMinutes(t, []api.Busy{a})
			for _, s := range all {
				wantFreeAsMinutes(t, []api.Busy{a}, s.From, s.To, 0, 1, 2, 3, 4, 5)
			}
			for _, b := range all {
				two := []api.Busy{a, b}
				wantNormAsMinutes(t, two)
				wantJoinAsMinutes(t, two[:1], two[1:])
				for _, s := range all {
					wantFreeAsMinutes(t, two, s.From, s.To, 0, 1, 2, 3, 4, 5)
				}
				for _, c := range all {
					three := []api.Busy{a, b, c}
					wantJoinAsMinutes(t, three[:1], three[1:])
					wantJoinAsMinutes(t, three[:2], three[2:])
					if faultOfAll(three) == api.OK {
						wantNormAsMinutes(t, three)
						wantFreeAsMinutes(t, three, least+1, least+4, 1, 2)
					}
				}
			}
		}
	}
}

// drawList draws a list in some hundred minutes, now and then with a wrong one.
func drawList(r *rand.Rand, many, wide int) []api.Busy {
	var list []api.Busy
	for range many {
		from := begin + r.IntN(wide)
		b := api.Busy{From: from, To: from + r.IntN(1+r.IntN(1+wide/8))}
		switch r.IntN(400) {
		case 0:
			b.To = noTimes[r.IntN(len(noTimes))]
		case 1:
			b.From = noTimes[r.IntN(len(noTimes))]
		case 2:
			b.To = b.From - 1 - r.IntN(5)
		}
		list = append(list, b)
	}
	return list
}

// Drawn lists, few and many, against what their minutes say.
func TestDrawn(t *testing.T) {
	r := rand.New(rand.NewPCG(15, 1))
	for range 3000 {
		wide := 10 + r.IntN(400)
		a, b := drawList(r, r.IntN(1+r.IntN(30)), wide), drawList(r, r.IntN(1+r.IntN(30)), wide)
		if r.IntN(20) == 0 {
			a, b = drawList(r, r.IntN(210), wide), drawList(r, r.IntN(210), wide)
		}
		wantNormAsMinutes(t, a)
		wantJoinAsMinutes(t, a, b)
		for range 3 {
			from := begin - 20 + r.IntN(wide+40)
			to := from - 2 + r.IntN(wide)
			wantFreeAsMinutes(t, a, from, to, 1, 2, 3, r.IntN(30), r.IntN(wide), to-from)
		}
	}
}
