package busy_test

import (
	"slices"
	"testing"

	"chimework/api"
	"chimework/busy"
	"chimework/plain"
)

// The numbers are written out, so that they are held against ones that the program did not work out.
const (
	lastTime   = 157785119
	mostBusy   = 200
	longest    = 1000000
	begin      = 66730000 // 2026-11-16 06:40
	stretchEnd = begin + 100
)

// wantError asks for an error, or for nil where that is OK.
func wantError(t *testing.T, what string, err error, want api.Errno) {
	t.Helper()
	if plain.Told(err) != want || (err == nil) != (want == api.OK) {
		t.Fatalf("%s: got %v, want %v", what, err, want)
	}
}

// wantList asks for just this list, and no error.
func wantList(t *testing.T, what string, got []api.Busy, err error, want []api.Busy) {
	t.Helper()
	wantError(t, what, err, api.OK)
	if !slices.Equal(got, want) {
		t.Fatalf("%s: got %v, want %v", what, got, want)
	}
}

// wantNumber asks for a number, and no error.
func wantNumber(t *testing.T, what string, got int, err error, want int) {
	t.Helper()
	wantError(t, what, err, api.OK)
	if got != want {
		t.Fatalf("%s: got %d, want %d", what, got, want)
	}
}

// wantNoList asks for an error, and nothing beside it.
func wantNoList(t *testing.T, what string, got []api.Busy, err error, want api.Errno) {
	t.Helper()
	wantError(t, what, err, want)
	if len(got) > 0 {
		t.Fatalf("%s: got %v beside its error", what, got)
	}
}

// wantNoNumber asks for an error, and 0 beside it.
func wantNoNumber(t *testing.T, what string, got int, err error, want api.Errno) {
	t.Helper()
	wantError(t, what, err, want)
	if got != 0 {
		t.Fatalf("%s: got %d beside its error", what, got)
	}
}

func wantNorm(t *testing.T, list, want []api.Busy) {
	t.Helper()
	got, err := busy.Norm(list)
	wantList(t, "Norm", got, err, want)
}

func wantJoin(t *testing.T, a, b, want []api.Busy) {
	t.Helper()
	got, err := busy.Join(a, b)
	wantList(t, "Join", got, err, want)
}

func wantFree(t *testing.T, list []api.Busy, from, to int, want []api.Busy) {
	t.Helper()
	got, err := busy.Free(list, from, to)
	wantList(t, "Free", got, err, want)
}

func wantSlot(t *testing.T, list []api.Busy, from, to, length, want int) {
	t.Helper()
	got, err := busy.Slot(list, from, to, length)
	wantNumber(t, "Slot", got, err, want)
	wantSlotAmong(t, list, from, to, length, want)
}

func wantNoSlot(t *testing.T, list []api.Busy, from, to, length int, want api.Errno) {
	t.Helper()
	got, err := busy.Slot(list, from, to, length)
	wantNoNumber(t, "Slot", got, err, want)
	// Of lists that are not too long both tell the same.
	if len(list) <= mostBusy {
		wantNoSlotAmong(t, list, from, to, length, want)
	}
}

func wantTotal(t *testing.T, list []api.Busy, want int) {
	t.Helper()
	got, err := busy.Total(list)
	wantNumber(t, "Total", got, err, want)
}

// of makes a list of pairs of numbers.
func of(pairs ...int) []api.Busy {
	var list []api.Busy
	for i := 0; i+1 < len(pairs); i += 2 {
		list = append(list, api.Busy{From: pairs[i], To: pairs[i+1]})
	}
	return list
}

// at makes a list of pairs of minutes behind begin.
func at(pairs ...int) []api.Busy {
	list := of(pairs...)
	for i := range list {
		list[i].From += begin
		list[i].To += begin
	}
	return list
}

// eachOrder goes over all orders of a list.
func eachOrder(list []api.Busy, do func([]api.Busy)) {
	if len(list) == 0 {
		do(nil)
	}
	for i, b := range list {
		rest := slices.Delete(slices.Clone(list), i, i+1)
		eachOrder(rest, func(rest []api.Busy) { do(append([]api.Busy{b}, rest...)) })
	}
}

// A list of what is taken, what its Norm is, what is free from begin to stretchEnd, and how many minutes are taken.
type picture struct {
	what              string
	list, norm, free  []api.Busy
	total             int
	length, firstSlot int // the longest that is free, and how many minutes behind begin it is
}

var pictures = []picture{
	{"nothing", nil, nil, at(0, 100), 0, 100, 0},
	{"one", at(10, 20), at(10, 20), at(0, 10, 20, 100), 10, 80, 20},
	{"far apart", at(10, 20, 40, 50, 70, 80), at(10, 20, 40, 50, 70, 80), at(0, 10, 20, 40, 50, 70, 80, 100), 30, 20, 20},
	{"two meet", at(10, 30, 20, 40), at(10, 40), at(0, 10, 40, 100), 30, 60, 40},
	{"two meet for a minute", at(10, 21, 20, 40), at(10, 40), at(0, 10, 40, 100), 30, 60, 40},
	{"two touch", at(10, 20, 20, 40), at(10, 40), at(0, 10, 40, 100), 30, 60, 40},
	{"three touch", at(10, 20, 20, 40, 40, 70), at(10, 70), at(0, 10, 70, 100), 60, 30, 70},
	{"a minute between", at(10, 20, 21, 40), at(10, 20, 21, 40), at(0, 10, 20, 21, 40, 100), 29, 60, 40},
	{"one within another", at(10, 40, 20, 30), at(10, 40), at(0, 10, 40, 100), 30, 60, 40},
	{"the same twice", at(10, 40, 10, 40), at(10, 40), at(0, 10, 40, 100), 30, 60, 40},
	{"the same begin", at(10, 40, 10, 30), at(10, 40), at(0, 10, 40, 100), 30, 60, 40},
	{"the same end", at(10, 40, 20, 40), at(10, 40), at(0, 10, 40, 100), 30, 60, 40},
	{"a long one, several within it, one that only it meets", at(10, 60, 15, 20, 25, 30, 35, 40, 55, 70), at(10, 70), at(0, 10, 70, 100), 60, 30, 70},
	{"a long one, several within it, one that only touches it", at(10, 60, 15, 20, 25, 30, 60, 70), at(10, 70), at(0, 10, 70, 100), 60, 30, 70},
	{"a long one, several within it, one a minute behind it", at(10, 60, 15, 20, 25, 30, 61, 70), at(10, 60, 61, 70), at(0, 10, 60, 61, 70, 100), 59, 30, 70},
	{"one that joins two", at(10, 20, 30, 40, 20, 30), at(10, 40), at(0, 10, 40, 100), 30, 60, 40},
	{"no minute, alone", at(10, 10), nil, at(0, 100), 0, 100, 0},
	{"no minute, twice", at(10, 10, 10, 10), nil, at(0, 100), 0, 100, 0},
	{"no minute, within another", at(10, 20, 15, 15), at(10, 20), at(0, 10, 20, 100), 10, 80, 20},
	{"no minute, at a begin", at(10, 20, 10, 10), at(10, 20), at(0, 10, 20, 100), 10, 80, 20},
	{"no minute, at an end", at(10, 20, 20, 20), at(10, 20), at(0, 10, 20, 100), 10, 80, 20},
	{"no minute, ahead of a begin", at(9, 9, 10, 20), at(10, 20), at(0, 10, 20, 100), 10, 80, 20},
	{"no minute, behind an end", at(10, 20, 21, 21), at(10, 20), at(0, 10, 20, 100), 10, 80, 20},
	{"no minute, between two a minute apart", at(10, 20, 20, 20, 21, 21, 21, 40), at(10, 20, 21, 40), at(0, 10, 20, 21, 40, 100), 29, 60, 40},
	{"no minute, between two that are two minutes apart", at(10, 20, 21, 21, 22, 40), at(10, 20, 22, 40), at(0, 10, 20, 22, 40, 100), 28, 60, 40},
	{"no minute, where two touch", at(10, 20, 20, 20, 20, 40), at(10, 40), at(0, 10, 40, 100), 30, 60, 40},
	{"all of the stretch", at(0, 100), at(0, 100), nil, 100, 0, 0},
	{"all of the stretch, by two", at(0, 50, 50, 100), at(0, 100), nil, 100, 0, 0},
	{"all of the stretch, and more", at(-10, 110), at(-10, 110), nil, 120, 0, 0},
	{"all but its first minute", at(1, 100), at(1, 100), at(0, 1), 99, 1, 0},
	{"all but its last minute", at(0, 99), at(0, 99), at(99, 100), 99, 1, 99},
	{"all but a minute within", at(0, 50, 51, 100), at(0, 50, 51, 100), at(50, 51), 99, 1, 50},
	{"the stretch begins within one", at(-10, 10), at(-10, 10), at(10, 100), 20, 90, 10},
	{"the stretch ends within one", at(90, 110), at(90, 110), at(0, 90), 20, 90, 0},
	{"the stretch touches one ahead", at(-10, 0), at(-10, 0), at(0, 100), 10, 100, 0},
	{"the stretch touches one behind", at(100, 110), at(100, 110), at(0, 100), 10, 100, 0},
	{"a minute into its begin", at(-10, 1), at(-10, 1), at(1, 100), 11, 99, 1},
	{"a minute into its end", at(99, 110), at(99, 110), at(0, 99), 11, 99, 0},
	{"ahead of and behind the stretch", at(-30, -20, 120, 130), at(-30, -20, 120, 130), at(0, 100), 20, 100, 0},
	{"two that leave the same twice", at(10, 20, 30, 90), at(10, 20, 30, 90), at(0, 10, 20, 30, 90, 100), 70, 10, 0},
}

// Norm, Free, Slot and Total of each picture, in whatever order its list comes.
func TestPictures(t *testing.T) {
	for _, p := range pictures {
		t.Run(p.what, func(t *testing.T) {
			eachOrder(p.list, func(list []api.Busy) {
				wantNorm(t, list, p.norm)
				wantFree(t, list, begin, stretchEnd, p.free)
				wantTotal(t, list, p.total)
				wantJoin(t, list, nil, p.norm)
				wantJoin(t, nil, list, p.norm)
				wantJoin(t, list, list, p.norm)
				if p.length > 0 {
					wantSlot(t, list, begin, stretchEnd, p.length, begin+p.firstSlot)
				}
				wantNoSlot(t, list, begin, stretchEnd, p.length+1, api.ErrNone)
			})
		})
	}
}

// What is Norm of something is Norm of itself.
func TestNormOfNorm(t *testing.T) {
	for _, p := range pictures {
		wantNorm(t, p.norm, p.norm)
		wantTotal(t, p.norm, p.total)
		wantFree(t, p.norm, begin, stretchEnd, p.free)
	}
}

// However a list is cut into two, Join of them is its Norm.
func TestJoinOfEachCut(t *testing.T) {
	for _, p := range pictures {
		eachOrder(p.list, func(list []api.Busy) {
			for cut := range len(list) + 1 {
				wantJoin(t, list[:cut], list[cut:], p.norm)
			}
		})
	}
}

func TestJoin(t *testing.T) {
	a := at(50, 60, 10, 20, 30, 40)
	for _, c := range []struct{ b, want []api.Busy }{
		{nil, at(10, 20, 30, 40, 50, 60)},
		{at(0, 5, 70, 80), at(0, 5, 10, 20, 30, 40, 50, 60, 70, 80)},
		{at(22, 28, 42, 48), at(10, 20, 22, 28, 30, 40, 42, 48, 50, 60)},
		{at(40, 50, 20, 30), at(10, 60)},
		{at(21, 29, 41, 49), at(10, 20, 21, 29, 30, 40, 41, 49, 50, 60)},
		{at(15, 35), at(10, 40, 50, 60)},
		{at(15, 18, 32, 33), at(10, 20, 30, 40, 50, 60)},
		{at(0, 100), at(0, 100)},
		{at(60, 70, 5, 10), at(5, 20, 30, 40, 50, 70)},
		{at(20, 20, 25, 25, 30, 30), at(10, 20, 30, 40, 50, 60)},
	} {
		wantJoin(t, a, c.b, c.want)
		wantJoin(t, c.b, a, c.want)
	}
}

// The minutes of a stretch are free or taken, each once.
func TestEachMinuteOnce(t *testing.T) {
	for _, p := range pictures {
		for _, s := range at(0, 100, 0, 0, 5, 15, 15, 60, 10, 20, 20, 21, 30, 90, -50, 150, 99, 100, 100, 101) {
			free, err := busy.Free(p.list, s.From, s.To)
			wantError(t, "Free", err, api.OK)
			taken, err := busy.Norm(p.list)
			wantError(t, "Norm", err, api.OK)
			for m := s.From - 5; m < s.To+5; m++ {
				want := 0
				if s.From <= m && m < s.To {
					want = 1
				}
				if got := holding(free, m); got > want {
					t.Fatalf("%s: minute %d is free %d times from %d to %d", p.what, m, got, s.From, s.To)
				}
				if got := holding(free, m) + holding(taken, m); want == 1 && got != 1 {
					t.Fatalf("%s: minute %d is free or taken %d times from %d to %d", p.what, m, got, s.From, s.To)
				}
			}
		}
	}
}

// holding tells how many of a list have a minute.
func holding(list []api.Busy, minute int) int {
	many := 0
	for _, b := range list {
		if b.From <= minute && minute < b.To {
			many++
		}
	}
	return many
}

// The numbers of the errors, written out.
func TestErrorsByNumber(t *testing.T) {
	_, full := busy.Norm(make([]api.Busy, mostBusy+1))
	_, noTime := busy.Join(nil, of(0, 1))
	_, turned := busy.Total(of(2, 1))
	_, backwards := busy.Free(nil, 2, 1)
	_, none := busy.Slot(nil, 1, 2, 2)
	_, fine := busy.Slot(nil, 1, 2, 1)
	for _, c := range []struct {
		told error
		want int
	}{{full, 4}, {noTime, 1}, {turned, 3}, {backwards, 3}, {none, 5}, {fine, 0}} {
		if int(plain.Told(c.told)) != c.want {
			t.Errorf("got %v, want the error %d", c.told, c.want)
		}
	}
}
