package period_test

import (
	"fmt"
	"math/rand/v2"
	"slices"
	"testing"

	"chimework/api"
	"chimework/period"
	"chimework/rule"
)

func wantDays(t *testing.T, r api.Rule, start, k int, want []int) {
	t.Helper()
	if got, err := period.Days(r, start, k); !slices.Equal(got, want) || err != nil {
		t.Errorf("Days(%+v, %d, %d): got %v, %v, want %v", r, start, k, got, err, want)
	}
}

// daysCase has a rule, a start and a k, and the days that are asked for.
type daysCase struct {
	rule, start string
	k           int
	want        string
}

func holdCases(t *testing.T, cases []daysCase) {
	t.Helper()
	for _, c := range cases {
		wantDays(t, ruleOf(t, c.rule), dayOf(t, c.start), c.k, daysOf(t, c.want))
	}
}

func TestDaysLeftToStart(t *testing.T) {
	holdCases(t, []daysCase{
		{"daily", "2026-11-16", 0, "2026-11-16"},
		{"daily every 3", "2026-12-30", 1, "2027-01-02"},
		{"daily", "1900-01-01", 0, "1900-01-01"},
		{"daily", "2199-12-31", 0, "2199-12-31"},
		{"weekly", "2026-11-16", 0, "2026-11-16"},
		{"weekly", "2026-11-22", 0, "2026-11-22"},
		{"weekly every 2", "2026-11-18", 1, "2026-12-02"},
		{"weekly", "1900-01-07", 0, "1900-01-07"},
		{"weekly", "2199-12-24", 1, "2199-12-31"}, // the last week has a Monday and a Tuesday alone
		{"weekly", "2199-12-25", 1, ""},
		{"monthly", "2026-11-16", 1, "2026-12-16"},
		{"monthly", "2026-01-31", 0, "2026-01-31"},
		{"monthly", "2026-01-31", 1, ""}, // 28 days
		{"monthly", "2026-01-31", 2, "2026-03-31"},
		{"monthly", "2026-01-31", 3, ""},
		{"monthly", "2026-01-30", 1, ""},
		{"monthly", "2026-01-30", 3, "2026-04-30"},
		{"monthly", "2026-01-29", 1, ""},
		{"monthly", "2024-01-29", 1, "2024-02-29"},
		{"monthly", "2024-01-30", 1, ""},
		{"monthly", "2026-01-28", 1, "2026-02-28"},
		{"yearly", "2026-11-16", 1, "2027-11-16"},
		{"yearly", "2024-02-29", 0, "2024-02-29"},
		{"yearly", "2024-02-29", 1, ""},
		{"yearly every 4", "2024-02-29", 1, "2028-02-29"},
		{"yearly every 4", "2096-02-29", 1, ""}, // 2100 is not leap
		{"yearly", "1900-01-01", 299, "2199-01-01"},
		{"yearly", "2199-12-31", 0, "2199-12-31"},
	})
}

func TestDaysOfMonthsAlone(t *testing.T) {
	holdCases(t, []daysCase{
		{"daily months 11", "2026-11-16", 0, "2026-11-16"},
		{"daily months 11", "2026-11-16", 14, "2026-11-30"},
		{"daily months 11", "2026-11-16", 15, ""},
		{"weekly months 12", "2026-11-17", 1, ""},
		{"weekly months 12", "2026-11-17", 2, "2026-12-01"}, // the week's Monday is of November
		{"weekly months 12", "2026-11-16", 2, ""},
		{"weekly months 11,12", "2026-11-16", 2, "2026-11-30"},
		{"monthly months 1,3", "2026-01-31", 0, "2026-01-31"},
		{"monthly months 1,3", "2026-01-31", 1, ""},
		{"monthly months 1,3", "2026-01-31", 2, "2026-03-31"},
		{"monthly months 4", "2026-01-31", 3, ""},
		{"yearly months 1,2,3,4", "2026-11-16", 1, "2027-01-16 2027-02-16 2027-03-16 2027-04-16"},
		{"yearly months 1,2,3,4", "2026-01-31", 0, "2026-01-31 2026-03-31"},
		{"yearly months 1,2,3,4", "2026-01-29", 2, "2028-01-29 2028-02-29 2028-03-29 2028-04-29"},
		{"yearly months 6", "2026-11-16", 0, "2026-06-16"}, // start's own month is not added
		{"yearly months 6 pick 1", "2026-11-16", 0, "2026-06-16"},
	})
}

func TestDaysOfDays(t *testing.T) {
	holdCases(t, []daysCase{
		{"daily days -1", "2026-11-30", 0, "2026-11-30"},
		{"daily days -1", "2026-11-29", 0, ""},
		{"daily days -30", "2026-11-01", 0, "2026-11-01"},
		{"daily days -31", "2026-11-01", 0, ""},
		{"daily days -31", "2026-12-01", 0, "2026-12-01"},
		{"daily days 31", "2026-12-31", 0, "2026-12-31"},
		{"monthly days 31", "2026-01-05", 0, "2026-01-31"},
		{"monthly days 31", "2026-01-05", 1, ""},
		{"monthly days 31", "2026-01-05", 3, ""},
		{"monthly days -31", "2026-01-05", 0, "2026-01-01"},
		{"monthly days -31", "2026-01-05", 3, ""},
		{"monthly days -30", "2026-01-05", 3, "2026-04-01"},
		{"monthly days -29", "2024-01-05", 1, "2024-02-01"},
		{"monthly days -29", "2026-01-05", 1, ""},
		{"monthly days -28,28", "2026-01-05", 1, "2026-02-01 2026-02-28"},
		{"monthly days -28,28", "2024-01-05", 1, "2024-02-02 2024-02-28"},
		{"monthly days -1,28", "2026-01-05", 1, "2026-02-28"}, // the same day once
		{"monthly days -1,1,15", "2026-11-16", 0, "2026-11-01 2026-11-15 2026-11-30"},
		{"monthly months 1 days 1", "2026-11-16", 0, ""},
		{"monthly months 1 days 1", "2026-11-16", 2, "2027-01-01"},
		{"yearly months 2 days 29", "2026-11-16", 0, ""},
		{"yearly months 2 days 29", "2026-11-16", 2, "2028-02-29"},
		{"yearly months 1,2,12 days -1,31", "2026-11-16", 0, "2026-01-31 2026-02-28 2026-12-31"},
	})
}

func TestDaysOfWeeks(t *testing.T) {
	holdCases(t, []daysCase{
		{"daily on mo", "2026-11-16", 0, "2026-11-16"},
		{"daily on mo", "2026-11-16", 1, ""},
		{"daily on mo", "2026-11-16", 7, "2026-11-23"},
		{"weekly on tu,su", "2026-11-18", 0, "2026-11-17 2026-11-22"}, // the Tuesday is ahead of start
		{"weekly on mo,tu,we,th,fr,sa,su", "2026-11-18", 0, "2026-11-16 2026-11-17 2026-11-18 2026-11-19 2026-11-20 2026-11-21 2026-11-22"},
		{"weekly on mo,tu,we,th,fr,sa,su", "2199-12-31", 0, "2199-12-30 2199-12-31"},
		{"weekly on we,su", "2199-12-31", 0, ""},
		{"weekly on mo,su", "1900-01-03", 0, "1900-01-01 1900-01-07"},
		{"weekly months 12 on mo,tu,su", "2026-11-16", 2, "2026-12-01 2026-12-06"},
		{"monthly on mo", "2026-11-16", 0, "2026-11-02 2026-11-09 2026-11-16 2026-11-23 2026-11-30"},
		{"monthly on 1mo", "2026-11-16", 0, "2026-11-02"},
		{"monthly on 5mo", "2026-11-16", 0, "2026-11-30"},
		{"monthly on -1mo", "2026-11-16", 0, "2026-11-30"},
		{"monthly on -5mo", "2026-11-16", 0, "2026-11-02"},
		{"monthly on 5tu", "2026-11-16", 0, ""}, // four Tuesdays
		{"monthly on -5tu", "2026-11-16", 0, ""},
		{"monthly on 4tu", "2026-11-16", 0, "2026-11-24"},
		{"monthly on -4tu", "2026-11-16", 0, "2026-11-03"},
		{"monthly on -4tu,-1tu,1tu,4tu", "2026-11-16", 0, "2026-11-03 2026-11-24"},
		{"monthly on -1mo,mo,5mo", "2026-11-16", 0, "2026-11-02 2026-11-09 2026-11-16 2026-11-23 2026-11-30"},
		{"monthly on 3mo,-2fr", "2026-11-16", 1, "2026-12-18 2026-12-21"}, // by Weekday in the list, by day in what is told
		{"monthly on 5su", "2026-02-01", 0, ""},
		{"monthly on 5th", "2024-02-01", 0, "2024-02-29"},
		{"monthly on -5th", "2024-02-01", 0, "2024-02-01"},
		{"yearly months 3,10 on -1su", "2026-11-16", 0, "2026-03-29 2026-10-25"},
		{"yearly months 2 on 5th", "2026-11-16", 0, ""},
		{"yearly months 11 on 4th", "2026-11-16", 1, "2027-11-25"}, // the N-th of its month, not of the year
	})
}

func TestDaysOfListsTogether(t *testing.T) {
	holdCases(t, []daysCase{
		{"monthly days 13 on fr", "2026-11-13", 0, "2026-11-13"},
		{"monthly days 13 on fr", "2026-11-13", 1, ""},
		{"monthly days 1,2,3,4,5,6,7 on 1mo", "2026-11-16", 0, "2026-11-02"},
		{"monthly days 8 on 1su", "2026-11-16", 0, ""}, // the 8th is the second Sunday
		{"monthly days 8 on 2su", "2026-11-16", 0, "2026-11-08"},
		{"monthly months 11 days -1 on mo", "2026-11-16", 0, "2026-11-30"},
		{"monthly months 12 days -1 on mo", "2026-11-16", 0, ""},
		{"daily months 11 days 16 on mo", "2026-11-16", 0, "2026-11-16"},
		{"daily months 11 days 16 on tu", "2026-11-16", 0, ""},
		{"daily months 11 days 17 on mo", "2026-11-16", 0, ""},
		{"daily months 10 days 16 on mo", "2026-11-16", 0, ""},
		{"yearly months 2,3,11 days 13 on fr", "2026-11-16", 0, "2026-02-13 2026-03-13 2026-11-13"},
		{"yearly months 2 days 30", "2028-11-16", 0, ""},
	})
}

func TestPick(t *testing.T) {
	holdCases(t, []daysCase{
		{"monthly on mo,tu,we,th,fr pick -1", "2026-10-01", 0, "2026-10-30"},
		{"monthly on mo,tu,we,th,fr pick 1", "2026-11-16", 0, "2026-11-02"}, // ahead of start, and it counts
		{"monthly on mo pick 2", "2026-11-16", 0, "2026-11-09"},
		{"monthly on mo pick 5", "2026-11-16", 0, "2026-11-30"},
		{"monthly on mo pick 5", "2026-11-16", 1, ""}, // four Mondays
		{"monthly on mo pick -5", "2026-11-16", 0, "2026-11-02"},
		{"monthly on mo pick -5", "2026-11-16", 1, ""},
		{"monthly on mo pick -4", "2026-11-16", 1, "2026-12-07"},
		{"monthly on mo pick -1,1", "2026-11-16", 0, "2026-11-02 2026-11-30"},
		{"monthly on mo pick -3,3", "2026-11-16", 0, "2026-11-16"}, // the same one once
		{"monthly on mo pick 6,31", "2026-11-16", 0, ""},
		{"monthly on mo pick -31,-6", "2026-11-16", 0, ""},
		{"monthly months 12 on mo pick -1,1", "2026-11-16", 0, ""}, // of none
		{"monthly months 11 pick -1", "2026-11-16", 0, "2026-11-16"},
		{"monthly months 11 pick 2", "2026-11-16", 0, ""},
		{"monthly days -2,-1,1,2 pick 3", "2026-11-16", 0, "2026-11-29"},
		{"weekly on mo,tu,su pick -1", "2026-11-18", 0, "2026-11-22"},
		{"weekly on mo,tu,su pick 1", "2026-11-18", 0, "2026-11-16"},
		{"weekly on mo,tu,su pick -1", "2199-12-31", 0, "2199-12-31"}, // of those that are days
		{"weekly months 12 on mo,tu,su pick 1", "2026-11-16", 2, "2026-12-01"},
		{"daily days 16 pick 1", "2026-11-16", 0, "2026-11-16"},
		{"daily days 16 pick -1", "2026-11-16", 0, "2026-11-16"},
		{"daily days 16 pick 2", "2026-11-16", 0, ""},
		{"daily months 11 pick -1,1", "2026-11-16", 1, "2026-11-17"},
		{"yearly months 1,12 days -1,1 pick -1,1", "2026-11-16", 0, "2026-01-01 2026-12-31"},
		{"yearly months 1 on mo pick -31,31", "2026-11-16", 0, ""},
		{"yearly months 1,2,3,4,5,6,7,8,9,10,11,12 on mo pick 31", "2026-11-16", 0, "2026-08-03"},
		{"yearly months 1,2,3,4,5,6,7,8,9,10,11,12 on mo pick -31", "2026-11-16", 0, "2026-06-01"},
		{"yearly months 1,2 pick 2", "2026-11-16", 0, "2026-02-16"},
		{"yearly months 1,2 pick 2", "2026-11-30", 0, ""},
	})
}

// asksFor says P2 of one day, sentence by sentence, by the library's calendar.
func asksFor(r api.Rule, start, n int) bool {
	first, l := leaves[start], leaves[n]
	months, days, weeks := len(r.Months) > 0, len(r.Days) > 0, len(r.Weeks) > 0
	if months && !slices.Contains(r.Months, l.month) {
		return false
	}
	if days && !slices.ContainsFunc(r.Days, func(d int) bool { return d == l.day || d < 0 && l.monthDays+1+d == l.day }) {
		return false
	}
	if weeks && !slices.ContainsFunc(r.Weeks, func(w api.Nth) bool {
		return w.Weekday == l.weekday && (w.N == 0 || w.N == l.nth || -w.N == l.back)
	}) {
		return false
	}
	if !months && !days && !weeks {
		switch r.Freq {
		case api.Weekly:
			return l.weekday == first.weekday
		case api.Monthly:
			return l.day == first.day
		case api.Yearly:
			return l.month == first.month && l.day == first.day
		}
	}
	if months && !days && !weeks {
		switch r.Freq {
		case api.Weekly:
			return l.weekday == first.weekday
		case api.Monthly, api.Yearly:
			return l.day == first.day
		}
	}
	return true
}

func pickOf(days, pick []int) []int {
	if len(pick) == 0 {
		return days
	}
	var list []int
	for _, n := range pick {
		if n > 0 && n <= len(days) {
			list = append(list, days[n-1])
		}
		if n < 0 && -n <= len(days) {
			list = append(list, days[len(days)+n])
		}
	}
	slices.Sort(list)
	return slices.Compact(list)
}

// hold holds both calls against what P1 and P2 say by the library's calendar.
func hold(t *testing.T, r api.Rule, start, k int) (found int) {
	t.Helper()
	span := spanOf(r.Freq, r.Every, start, k)
	if span == nil {
		wantRange(t, r, start, k)
		return 0
	}
	var days []int
	for _, n := range span {
		if asksFor(r, start, n) {
			days = append(days, n)
		}
	}
	days = pickOf(days, r.Pick)
	wantBegin(t, r, start, k, span[0])
	wantDays(t, r, start, k, days)
	return len(days)
}

// starts are the ends of the calendar, ends of months of each length, and days between.
func starts(t *testing.T) []int {
	return daysOf(t, "1900-01-01 1900-01-07 1900-02-28 1903-12-31 2000-02-29 2024-02-29 2026-01-31 2026-02-28 2026-04-30 2026-11-16 2096-02-29 2199-01-01 2199-12-29 2199-12-30 2199-12-31")
}

// Each frequency goes with each choice of lists that Check lets pass.
func TestEachShape(t *testing.T) {
	weeks := [][]api.Nth{nil, {{Weekday: 1}, {Weekday: 7}}, {{N: -5, Weekday: 2}, {N: 5, Weekday: 2}}, {{Weekday: 3}, {N: 1, Weekday: 3}}, {{N: -1, Weekday: 4}, {N: 1, Weekday: 5}}}
	shapes := 0
	for freq := api.Daily; freq <= api.Yearly; freq++ {
		for _, months := range [][]int{nil, {2}, {1, 4, 11}} {
			for _, days := range [][]int{nil, {-31}, {31}, {-1, 1, 16, 29}} {
				for _, on := range weeks {
					for _, pick := range [][]int{nil, {1}, {-1}, {-2, 2, 4}} {
						r := api.Rule{Freq: freq, Every: 1, Months: months, Days: days, Weeks: on, Pick: pick}
						if rule.Check(r) == nil {
							shapes++
							holdShape(t, r)
						}
					}
				}
			}
		}
	}
	if shapes < 300 {
		t.Errorf("%d shapes are too few", shapes)
	}
}

func holdShape(t *testing.T, r api.Rule) {
	for _, every := range []int{1, 2, 50} {
		r.Every = every
		for _, start := range starts(t) {
			for k := range 4 {
				hold(t, r, start, k)
			}
		}
	}
}

// Each number that a list may have is asked of each length of month.
func TestEachNumber(t *testing.T) {
	starts := daysOf(t, "2024-02-15 2026-02-15 2026-04-15 2026-11-15 2026-12-15")
	for _, start := range starts {
		for n := -31; n <= 31; n++ {
			if n != 0 {
				hold(t, api.Rule{Freq: api.Monthly, Every: 1, Days: []int{n}}, start, 0)
				hold(t, api.Rule{Freq: api.Monthly, Every: 1, Weeks: []api.Nth{{Weekday: 1}, {Weekday: 4}, {Weekday: 7}}, Pick: []int{n}}, start, 0)
				hold(t, api.Rule{Freq: api.Yearly, Every: 1, Months: upTo(1, 12), Days: []int{n}}, start, 0)
			}
		}
		for weekday := 1; weekday <= 7; weekday++ {
			for n := -5; n <= 5; n++ {
				hold(t, api.Rule{Freq: api.Monthly, Every: 1, Weeks: []api.Nth{{N: n, Weekday: weekday}}}, start, 0)
				hold(t, api.Rule{Freq: api.Yearly, Every: 1, Months: []int{2, 6, 7}, Weeks: []api.Nth{{N: n, Weekday: weekday}}}, start, 0)
			}
		}
	}
}

// The months are all there are: of each length, beginning on each weekday.
func TestEachMonth(t *testing.T) {
	for k := range 3600 {
		for weekday := 1; weekday <= 7; weekday++ {
			for _, n := range []int{-5, -4, 1, 5} {
				hold(t, api.Rule{Freq: api.Monthly, Every: 1, Weeks: []api.Nth{{N: n, Weekday: weekday}}}, 1, k)
			}
		}
		hold(t, api.Rule{Freq: api.Monthly, Every: 1, Days: []int{-29, -1, 30}}, 1, k)
	}
}

// Every day is one of just one period.
func TestPeriodsStandOneBehindTheOther(t *testing.T) {
	for freq := api.Daily; freq <= api.Yearly; freq++ {
		r := api.Rule{Freq: freq, Every: 1, Months: upTo(1, 12), Weeks: eachWeekday}
		next := 1
		for k := range spans[freq] {
			days, err := period.Days(r, 1, k)
			if len(days) == 0 || err != nil {
				t.Fatalf("Days(%+v, 1, %d): got %v, %v", r, k, days, err)
			}
			for _, n := range days {
				if n != next {
					t.Fatalf("Days(%+v, 1, %d): got %d, want %d", r, k, n, next)
				}
				next++
			}
		}
		if next != lastDay+1 {
			t.Errorf("frequency %d: the periods end ahead of %d", freq, next)
		}
	}
}

var eachWeekday = []api.Nth{{Weekday: 1}, {Weekday: 2}, {Weekday: 3}, {Weekday: 4}, {Weekday: 5}, {Weekday: 6}, {Weekday: 7}}

// draw takes some of a list, none of it as often as not.
func draw[T any](source *rand.Rand, list []T, most int) []T {
	if source.IntN(2) == 0 {
		return nil
	}
	var some []T
	count := 1 + source.IntN(most)
	for i, item := range list {
		if source.IntN(len(list)-i) < count-len(some) {
			some = append(some, item)
		}
	}
	return some
}

// The seed is fixed: the same rules come each time.
func TestDrawnRules(t *testing.T) {
	source := rand.New(rand.NewPCG(5, 2026))
	places := slices.DeleteFunc(upTo(-31, 31), func(n int) bool { return n == 0 })
	var weeks []api.Nth
	for weekday := 1; weekday <= 7; weekday++ {
		for n := -5; n <= 5; n++ {
			weeks = append(weeks, api.Nth{N: n, Weekday: weekday})
		}
	}
	held, found := 0, 0
	for held < 20000 {
		r := api.Rule{
			Freq: 1 + source.IntN(4), Every: 1 + source.IntN(50), Count: source.IntN(201),
			Months: draw(source, upTo(1, 12), 12), Days: draw(source, places, 31), Pick: draw(source, places, 20),
			Weeks: draw(source, weeks, 20),
		}
		if source.IntN(2) == 0 {
			r.Weeks = draw(source, eachWeekday, 7)
		}
		if source.IntN(2) == 0 {
			r.Count, r.Until = 0, source.IntN(lastDay+1)
		}
		if rule.Check(r) != nil {
			continue
		}
		start := 1 + source.IntN(lastDay)
		left := len(spans[r.Freq]) - spanAt[r.Freq][start]
		found += min(1, hold(t, r, start, source.IntN(left/r.Every+2)))
		held++
	}
	if found < 2000 {
		t.Errorf("of %d only %d ask for a day", held, found)
	}
}

// Count and Until do not change which days of a period there are.
func TestCountAndUntilChangeNothing(t *testing.T) {
	for _, text := range []string{"daily count 1", "daily until 1900-01-01"} {
		wantDays(t, ruleOf(t, text), 46341, 9, []int{46350})
	}
	for _, text := range []string{"weekly count 1 on mo,su", "weekly until 1900-01-01 on mo,su"} {
		wantDays(t, ruleOf(t, text), 46341, 9, []int{46404, 46410})
	}
}

// spare gives a list with other things behind its length, which must stay, and must not be asked for.
func spare[T any](list []T, behind T) []T {
	whole := append(slices.Clone(list), behind, behind)
	return whole[:len(list)]
}

func TestListsStayAsTheyAre(t *testing.T) {
	made := func(freq int) api.Rule {
		return api.Rule{
			Freq: freq, Every: 1,
			Months: spare([]int{10, 11}, 12), Days: spare([]int{-30, 1, 9, 16, 30}, 23),
			Weeks: spare([]api.Nth{{Weekday: 1}}, api.Nth{Weekday: 7}), Pick: spare([]int{-1, 2}, 1),
		}
	}
	whole := func(r api.Rule) string {
		return fmt.Sprint(r, r.Months[:4], r.Days[:7], r.Weeks[:3], r.Pick[:4])
	}
	for _, freq := range []int{api.Daily, api.Monthly, api.Yearly} {
		r := made(freq)
		hold(t, r, 46341, 0)
		if whole(r) != whole(made(freq)) {
			t.Errorf("the lists were written into: got %v, want %v", whole(r), whole(made(freq)))
		}
	}
}

// What is left to start is not written behind lists that are empty.
func TestEmptyListsAreNil(t *testing.T) {
	for freq := api.Daily; freq <= api.Yearly; freq++ {
		for _, months := range [][]int{nil, {11, 12}} {
			r := api.Rule{
				Freq: freq, Every: 1, Months: spare(months, 1), Days: spare([]int{}, 5),
				Weeks: spare([]api.Nth{}, api.Nth{Weekday: 3}), Pick: spare([]int{}, 31),
			}
			want, _ := period.Days(api.Rule{Freq: freq, Every: 1, Months: months}, 46341, 0)
			wantDays(t, r, 46341, 0, want)
			if !slices.Equal(want, []int{46341}) && freq != api.Yearly {
				t.Errorf("frequency %d: got %v", freq, want)
			}
			behind := fmt.Sprint(r.Months[len(months):len(months)+2], r.Days[:2], r.Weeks[:2], r.Pick[:2])
			if behind != "[1 1] [5 5] [{0 3} {0 3}] [31 31]" {
				t.Errorf("frequency %d: behind the lists stands %s", freq, behind)
			}
		}
	}
}

// What comes out is the caller's: writing into it changes neither the rule nor what comes out again.
func TestDaysAreFresh(t *testing.T) {
	for _, text := range []string{"daily", "weekly", "weekly on mo,tu,su", "monthly", "monthly days -1,1", "monthly on mo pick -1,1", "yearly months 1,2", "yearly months 2 on mo pick 1"} {
		r := ruleOf(t, text)
		days, _ := period.Days(r, 46341, 0)
		want := slices.Clone(days)
		for i := range days[:cap(days)] {
			days[:cap(days)][i] = -1
		}
		wantDays(t, r, 46341, 0, want)
		if len(want) == 0 {
			t.Errorf("%q asks for none", text)
		}
		if again, _ := rule.Print(r); again != text {
			t.Errorf("the rule is %q, was %q", again, text)
		}
	}
}
