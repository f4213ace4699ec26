package period_test

import (
	"math"
	"slices"
	"strings"
	"testing"
	"time"

	"chimework/api"
	"chimework/period"
	"chimework/plain"
	"chimework/rule"
)

// The end is written out, so that it is held against a number that the program did not work out.
const lastDay = 109573

// noDays are none, up to the ends of int.
var noDays = []int{
	math.MinInt, math.MinInt + 1, math.MinInt / 2, math.MinInt32, -lastDay, -7, -6, -1, 0,
	lastDay + 1, lastDay + 2, lastDay + 6, lastDay + 365, math.MaxInt32, math.MaxInt / 2, math.MaxInt - 6, math.MaxInt - 1, math.MaxInt,
}

// leaf is a day of the library's calendar; nth and back count its weekday in the month from both ends.
type leaf struct{ year, month, day, weekday, monthDays, nth, back int }

// leaves stand by the number of the day, from 1 on.
var leaves = makeLeaves()

func makeLeaves() []leaf {
	list := make([]leaf, lastDay+1)
	for n := 1; n <= lastDay; n++ {
		m := moment(n)
		nextMonth := time.Date(m.Year(), m.Month()+1, 1, 0, 0, 0, 0, time.UTC)
		length := nextMonth.AddDate(0, 0, -1).Day()
		l := leaf{year: m.Year(), month: int(m.Month()), day: m.Day(), weekday: int(m.Weekday()+6)%7 + 1, monthDays: length}
		for d := l.day; d >= 1; d -= 7 {
			l.nth++
		}
		for d := l.day; d <= length; d += 7 {
			l.back++
		}
		list[n] = l
	}
	return list
}

// moment of the library's calendar that a day is.
func moment(n int) time.Time { return time.Date(1900, 1, n, 0, 0, 0, 0, time.UTC) }

// spans are the periods of each frequency, one behind the other, each with all of its days.
var spans = [5][][]int{
	api.Daily:   makeSpans(func(n int) bool { return true }),
	api.Weekly:  makeSpans(func(n int) bool { return leaves[n].weekday == 1 }),
	api.Monthly: makeSpans(func(n int) bool { return leaves[n].day == 1 }),
	api.Yearly:  makeSpans(func(n int) bool { return leaves[n].month == 1 && leaves[n].day == 1 }),
}

// spanAt tells in which period of each frequency a day is.
var spanAt = makeSpanAt()

func makeSpans(begins func(n int) bool) [][]int {
	var list [][]int
	for n := 1; n <= lastDay; n++ {
		if begins(n) {
			list = append(list, nil)
		}
		list[len(list)-1] = append(list[len(list)-1], n)
	}
	return list
}

func makeSpanAt() [5][]int {
	var at [5][]int
	for freq := api.Daily; freq <= api.Yearly; freq++ {
		at[freq] = make([]int, lastDay+1)
		for i, span := range spans[freq] {
			for _, n := range span {
				at[freq][n] = i
			}
		}
	}
	return at
}

// spanOf is the period that P1 asks for; nil if there is none.
func spanOf(freq, every, start, k int) []int {
	i := spanAt[freq][start] + k*every
	if i >= len(spans[freq]) {
		return nil
	}
	return spans[freq][i]
}

// dayOf a date, `YYYY-MM-DD`, by the library's calendar.
func dayOf(t *testing.T, text string) int {
	t.Helper()
	m, err := time.Parse(time.DateOnly, text)
	if err != nil {
		t.Fatal(err)
	}
	// By seconds: a Duration does not reach over all years.
	return int(m.Unix()-moment(0).Unix()) / 86400
}

// daysOf dates, blanks between.
func daysOf(t *testing.T, text string) []int {
	t.Helper()
	var list []int
	for _, word := range strings.Fields(text) {
		list = append(list, dayOf(t, word))
	}
	return list
}

func ruleOf(t *testing.T, text string) api.Rule {
	t.Helper()
	r, err := rule.Parse(text)
	if err != nil {
		t.Fatalf("%q: %v", text, err)
	}
	return r
}

// wantRange asks both calls for ErrRange, by its name and by P3's number of it, and for nothing beside it.
func wantRange(t *testing.T, r api.Rule, start, k int) {
	t.Helper()
	n, err := period.Begin(r, start, k)
	if told := plain.Told(err); n != 0 || told != api.ErrRange || int(told) != 1 {
		t.Errorf("Begin(%+v, %d, %d): got %d, %v, want ErrRange", r, start, k, n, err)
	}
	days, err := period.Days(r, start, k)
	if told := plain.Told(err); len(days) != 0 || told != api.ErrRange || int(told) != 1 {
		t.Errorf("Days(%+v, %d, %d): got %v, %v, want ErrRange", r, start, k, days, err)
	}
}

func wantBegin(t *testing.T, r api.Rule, start, k, want int) {
	t.Helper()
	if got, err := period.Begin(r, start, k); got != want || err != nil {
		t.Errorf("Begin(%+v, %d, %d): got %d, %v, want %d", r, start, k, got, err, want)
	}
}

func TestBegin(t *testing.T) {
	cases := []struct {
		rule, start string
		k           int
		want        string
	}{
		{"daily", "2026-11-16", 0, "2026-11-16"},
		{"daily", "2026-11-16", 1, "2026-11-17"},
		{"daily every 3", "2026-12-30", 1, "2027-01-02"},
		{"daily every 50", "1900-01-01", 1, "1900-02-20"},
		{"daily", "1900-01-01", lastDay - 1, "2199-12-31"},
		{"daily", "2199-12-31", 0, "2199-12-31"},
		{"daily", "2024-02-28", 1, "2024-02-29"},
		{"daily", "2100-02-28", 1, "2100-03-01"},
		{"weekly", "2026-11-16", 0, "2026-11-16"}, // a Monday
		{"weekly", "2026-11-17", 0, "2026-11-16"},
		{"weekly", "2026-11-22", 0, "2026-11-16"}, // a Sunday
		{"weekly", "2026-11-22", 1, "2026-11-23"},
		{"weekly every 2", "2026-12-31", 1, "2027-01-11"},
		{"weekly every 50", "2026-11-18", 2, "2028-10-16"},
		{"weekly", "1900-01-07", 0, "1900-01-01"},
		{"weekly", "1900-01-08", 0, "1900-01-08"},
		{"weekly", "2199-12-31", 0, "2199-12-30"},
		{"weekly", "2199-12-29", 1, "2199-12-30"},
		{"weekly", "1900-01-03", 15653, "2199-12-30"},
		{"monthly", "2026-11-16", 0, "2026-11-01"},
		{"monthly", "2026-11-16", 1, "2026-12-01"},
		{"monthly", "2026-11-16", 2, "2027-01-01"},
		{"monthly", "2026-01-31", 1, "2026-02-01"},
		{"monthly", "2026-12-31", 12, "2027-12-01"},
		{"monthly every 5", "2026-11-30", 3, "2028-02-01"},
		{"monthly every 50", "1900-01-31", 1, "1904-03-01"},
		{"monthly", "1900-01-01", 3599, "2199-12-01"},
		{"monthly", "2199-12-31", 0, "2199-12-01"},
		{"yearly", "2026-11-16", 0, "2026-01-01"},
		{"yearly", "2026-12-31", 1, "2027-01-01"},
		{"yearly every 4", "2024-02-29", 2, "2032-01-01"},
		{"yearly every 50", "1900-01-01", 5, "2150-01-01"},
		{"yearly", "1900-12-31", 299, "2199-01-01"},
		{"yearly", "2199-12-31", 0, "2199-01-01"},
		// What the rule asks for besides, and how long it goes, moves no period.
		{"daily every 2 count 1", "2026-11-16", 9, "2026-12-04"},
		{"weekly until 1900-01-01 months 1 on mo pick -1", "2026-11-22", 1, "2026-11-23"},
		{"monthly months 2 days -31 on 5su pick 31", "2026-11-16", 4, "2027-03-01"},
		{"yearly count 200 months 12", "2026-11-16", 1, "2027-01-01"},
	}
	for _, c := range cases {
		wantBegin(t, ruleOf(t, c.rule), dayOf(t, c.start), c.k, dayOf(t, c.want))
	}
}

func TestBeginOfEachDay(t *testing.T) {
	for freq := api.Daily; freq <= api.Yearly; freq++ {
		for start := 1; start <= lastDay; start++ {
			wantBegin(t, api.Rule{Freq: freq, Every: 1}, start, 0, spanOf(freq, 1, start, 0)[0])
		}
	}
}

// Each Every goes on to the last period that there is, and not to the next one.
func TestBeginOfEachPeriod(t *testing.T) {
	for freq := api.Daily; freq <= api.Yearly; freq++ {
		for every := 1; every <= 50; every++ {
			r := api.Rule{Freq: freq, Every: every}
			for _, start := range []int{1, 7, 8, 31, 59, 366, 40000 + every, lastDay - 400, lastDay - 1, lastDay} {
				beginOfEachK(t, r, start)
			}
		}
	}
}

func beginOfEachK(t *testing.T, r api.Rule, start int) {
	k := 0
	for ; spanOf(r.Freq, r.Every, start, k) != nil; k++ {
		// The days of Daily are many: the first and the last ones are enough.
		if k < 100 || spanOf(r.Freq, r.Every, start, k+100) == nil {
			wantBegin(t, r, start, k, spanOf(r.Freq, r.Every, start, k)[0])
		}
	}
	for behind := k; behind < k+8; behind++ {
		wantRange(t, r, start, behind)
	}
}

func TestBehindTheLastDay(t *testing.T) {
	cases := []struct {
		rule, start string
		k           int
	}{
		{"daily", "2199-12-31", 1},
		{"daily every 50", "2199-11-12", 1},
		{"daily", "1900-01-01", lastDay},
		{"weekly", "2199-12-30", 1},
		{"weekly", "2199-12-24", 2},
		{"weekly", "1900-01-07", 15654},
		{"monthly", "2199-12-01", 1},
		{"monthly every 2", "2199-11-30", 1},
		{"monthly", "1900-01-01", 3600},
		{"yearly", "2199-01-01", 1},
		{"yearly every 50", "2150-06-01", 1},
		{"yearly", "1900-01-01", 300},
	}
	for _, c := range cases {
		r, start := ruleOf(t, c.rule), dayOf(t, c.start)
		wantRange(t, r, start, c.k)
		if _, err := period.Begin(r, start, c.k-1); err != nil {
			t.Errorf("%v, the one ahead of it: got %v", c, err)
		}
	}
}

// farKs lead behind the last day from each start; some are chosen so that, times Every or the days of a week, they would wrap around to a small number.
func farKs() []int {
	list := []int{lastDay, lastDay + 1, math.MaxInt32, math.MaxUint32, math.MaxUint32 + 1, math.MaxInt / 2, math.MaxInt - lastDay, math.MaxInt - 1, math.MaxInt}
	for _, times := range []uint64{2, 3, 4, 7, 8, 14, 16, 32, 50, 350} {
		whole := math.MaxUint64 / times
		for near := range uint64(3) {
			if n := whole + near; n <= math.MaxInt {
				list = append(list, int(n))
			}
		}
	}
	for bit := 20; bit < 63; bit++ {
		list = append(list, 1<<bit, 1<<bit+1)
	}
	return list
}

func TestFarK(t *testing.T) {
	for freq := api.Daily; freq <= api.Yearly; freq++ {
		for every := 1; every <= 50; every++ {
			for _, start := range []int{1, 2, 46341, lastDay} {
				for _, k := range farKs() {
					wantRange(t, api.Rule{Freq: freq, Every: every}, start, k)
				}
			}
		}
	}
}

func TestKBelow0(t *testing.T) {
	for freq := api.Daily; freq <= api.Yearly; freq++ {
		for _, every := range []int{1, 2, 50} {
			for _, start := range []int{1, 46341, lastDay} {
				for _, k := range []int{-1, -2, -12, -lastDay, math.MinInt32, math.MinInt / 2, math.MinInt + 1, math.MinInt} {
					wantRange(t, api.Rule{Freq: freq, Every: every}, start, k)
				}
			}
		}
	}
}

func TestStartThatIsNoDay(t *testing.T) {
	for freq := api.Daily; freq <= api.Yearly; freq++ {
		for _, every := range []int{1, 50} {
			for _, start := range noDays {
				for _, k := range []int{0, 1, 2, 8, 400, lastDay, -1, math.MinInt, math.MaxInt} {
					wantRange(t, api.Rule{Freq: freq, Every: every}, start, k)
				}
			}
		}
	}
}

// upTo lists the numbers from one to another one.
func upTo(from, to int) []int {
	var list []int
	for n := from; n <= to; n++ {
		list = append(list, n)
	}
	return list
}

// refused are rules in which chapter 4's Check finds something, of each of its kinds.
func refused() []api.Rule {
	monday, third := []api.Nth{{Weekday: 1}}, []api.Nth{{N: 3, Weekday: 1}}
	var many []api.Nth
	for weekday := 1; weekday <= 7; weekday++ {
		many = append(many, api.Nth{N: 1, Weekday: weekday}, api.Nth{N: 2, Weekday: weekday}, api.Nth{N: 3, Weekday: weekday})
	}
	list := []api.Rule{
		// ErrRange
		{}, {Freq: 5, Every: 1}, {Freq: -1, Every: 1}, {Freq: math.MaxInt, Every: 1}, {Every: 1},
		{Freq: api.Daily}, {Freq: api.Daily, Every: 51}, {Freq: api.Monthly, Every: -1}, {Freq: api.Yearly, Every: math.MaxInt}, {Freq: api.Weekly, Every: math.MinInt},
		{Freq: api.Daily, Every: 1, Count: -1}, {Freq: api.Weekly, Every: 1, Count: 201},
		{Freq: api.Daily, Every: 1, Until: -1}, {Freq: api.Monthly, Every: 1, Until: lastDay + 1},
		{Freq: api.Monthly, Every: 1, Months: []int{0}}, {Freq: api.Monthly, Every: 1, Months: []int{13}},
		{Freq: api.Monthly, Every: 1, Days: []int{0}}, {Freq: api.Monthly, Every: 1, Days: []int{-32}}, {Freq: api.Monthly, Every: 1, Days: []int{32}},
		{Freq: api.Monthly, Every: 1, Weeks: []api.Nth{{}}}, {Freq: api.Monthly, Every: 1, Weeks: []api.Nth{{Weekday: 8}}},
		{Freq: api.Monthly, Every: 1, Weeks: []api.Nth{{N: 6, Weekday: 1}}}, {Freq: api.Monthly, Every: 1, Weeks: []api.Nth{{N: -6, Weekday: 1}}},
		{Freq: api.Monthly, Every: 1, Days: []int{1}, Pick: []int{0}}, {Freq: api.Monthly, Every: 1, Days: []int{1}, Pick: []int{math.MinInt}},
		// ErrShape
		{Freq: api.Daily, Every: 1, Count: 1, Until: 1},
		{Freq: api.Daily, Every: 1, Weeks: third}, {Freq: api.Weekly, Every: 1, Weeks: third},
		{Freq: api.Weekly, Every: 1, Days: []int{1}}, {Freq: api.Yearly, Every: 1, Days: []int{1}}, {Freq: api.Yearly, Every: 1, Weeks: monday},
		// ErrFull
		{Freq: api.Monthly, Every: 1, Months: upTo(1, 13)}, {Freq: api.Monthly, Every: 1, Days: upTo(-32, -1)},
		{Freq: api.Monthly, Every: 1, Weeks: many}, {Freq: api.Monthly, Every: 1, Days: []int{1}, Pick: upTo(1, 21)},
		// ErrClash
		{Freq: api.Monthly, Every: 1, Months: []int{2, 1}}, {Freq: api.Monthly, Every: 1, Days: []int{1, 1}},
		{Freq: api.Monthly, Every: 1, Weeks: []api.Nth{{Weekday: 2}, {Weekday: 1}}}, {Freq: api.Monthly, Every: 1, Days: []int{1}, Pick: []int{1, -1}},
	}
	for freq := api.Daily; freq <= api.Yearly; freq++ {
		list = append(list, api.Rule{Freq: freq, Every: 1, Pick: []int{1}})
	}
	return list
}

// Whatever Check finds, it is ErrRange here: beside good numbers and beside bad ones.
func TestRefusedRules(t *testing.T) {
	var kinds []api.Errno
	for _, r := range refused() {
		kinds = append(kinds, plain.Told(rule.Check(r)))
		for _, start := range []int{1, 46341, lastDay, 0, lastDay + 1, math.MinInt, math.MaxInt} {
			for _, k := range []int{0, 1, lastDay, -1, math.MinInt, math.MaxInt} {
				wantRange(t, r, start, k)
			}
		}
	}
	for _, kind := range []api.Errno{api.ErrRange, api.ErrShape, api.ErrFull, api.ErrClash} {
		if !slices.Contains(kinds, kind) {
			t.Errorf("no rule has %v", kind)
		}
	}
	if slices.Contains(kinds, api.OK) {
		t.Errorf("a rule has no fault: %v", kinds)
	}
}
