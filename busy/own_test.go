package busy_test

import (
	"slices"
	"testing"

	"chimework/api"
	"chimework/busy"
)

// spoil all that a list has, and what lies behind its length.
func spoil(list []api.Busy) {
	list = append(list, api.Busy{From: -7, To: -7})
	list = list[:cap(list)]
	for i := range list {
		list[i] = api.Busy{From: -7, To: -7}
	}
}

// roomy makes a list of what is handed in, with wrong ones and one that would join all behind its length.
func roomy(list []api.Busy) (short, whole []api.Busy) {
	whole = slices.Concat(list, of(9, 1, 0, 0, 1, lastTime, -7, -7))
	return whole[:len(list)], whole
}

// lists that are right or wrong.
func someLists() [][]api.Busy {
	all := [][]api.Busy{row(mostBusy, begin, 3, 2), backwards(row(mostBusy, begin, 3, 2)), row(mostBusy+1, begin, 3, 2), at(30, 40, 20, 10, 10, 20), of(begin, begin+5, 0, 1)}
	for _, p := range pictures {
		all = append(all, p.list, backwards(p.list))
	}
	return all
}

// No call changes what is handed in, nor what lies behind its length.
func TestListsStayAsTheyAre(t *testing.T) {
	for _, list := range someLists() {
		short, whole := roomy(list)
		other, wholeOther := roomy(at(35, 25, 15, 15))
		right, wholeRight := roomy(at(25, 35, 15, 15, 5, 11))
		before := [][]api.Busy{slices.Clone(whole), slices.Clone(wholeOther), slices.Clone(wholeRight)}
		busy.Norm(short)
		busy.Total(short)
		for _, b := range [][]api.Busy{other, right, short, nil} {
			busy.Join(short, b)
			busy.Join(b, short)
		}
		for _, to := range []int{stretchEnd, begin, begin - 1, 0} {
			busy.Free(short, begin, to)
			busy.Slot(short, begin, to, 10)
			busy.Slot(short, begin, to, 0)
		}
		for i, now := range [][]api.Busy{whole, wholeOther, wholeRight} {
			if !slices.Equal(now, before[i]) {
				t.Fatalf("a list was changed: got %v, want %v", now, before[i])
			}
		}
	}
}

// What lies behind the length is not looked at.
func TestBehindTheLength(t *testing.T) {
	for _, p := range pictures {
		short, _ := roomy(p.list)
		wantNorm(t, short, p.norm)
		wantTotal(t, short, p.total)
		wantFree(t, short, begin, stretchEnd, p.free)
		wantNoSlot(t, short, begin, stretchEnd, p.length+1, api.ErrNone)
		wantJoin(t, short, nil, p.norm)
		wantJoin(t, nil, short, p.norm)
		wantJoin(t, short, short, p.norm)
	}
}

// answersOf tells the lists that calls answer of one.
func answersOf(list []api.Busy) [][]api.Busy {
	norm, _ := busy.Norm(list)
	first, _ := busy.Join(list, nil)
	second, _ := busy.Join(nil, list)
	both, _ := busy.Join(list, list)
	free, _ := busy.Free(list, begin, stretchEnd)
	return [][]api.Busy{norm, first, second, both, free}
}

// What is done to an answer does nothing to what was handed in, nor to another answer, earlier or later.
func TestAnswersAreTheCallers(t *testing.T) {
	for _, p := range pictures {
		want := [][]api.Busy{p.norm, p.norm, p.norm, p.norm, p.free}
		short, whole := roomy(p.list)
		before := slices.Clone(whole)
		for i := range want {
			earlier, spoilt := answersOf(short), answersOf(short)
			spoil(spoilt[i])
			for k, got := range slices.Concat(earlier, answersOf(short)) {
				if !slices.Equal(got, want[k%len(want)]) {
					t.Fatalf("%s: answer %d, with %d spoilt: got %v, want %v", p.what, k, i, got, want[k%len(want)])
				}
			}
			for k, got := range spoilt {
				if k != i && !slices.Equal(got, want[k]) {
					t.Fatalf("%s: answer %d, beside %d that is spoilt: got %v, want %v", p.what, k, i, got, want[k])
				}
			}
			if !slices.Equal(whole, before) {
				t.Fatalf("%s: the list was changed: got %v, want %v", p.what, whole, before)
			}
		}
	}
}

// What is done to a list later does nothing to what was answered of it.
func TestListsAreNotKept(t *testing.T) {
	for _, p := range pictures {
		list := slices.Clone(p.list)
		told := answersOf(list)
		spoil(list)
		for i := range list {
			list[i] = api.Busy{From: 1, To: lastTime}
		}
		for k, want := range [][]api.Busy{p.norm, p.norm, p.norm, p.norm, p.free} {
			if !slices.Equal(told[k], want) {
				t.Fatalf("%s: answer %d: got %v, want %v", p.what, k, told[k], want)
			}
		}
	}
}
