package seq_test

import (
	"fmt"
	"math"
	"slices"
	"testing"

	"chimework/api"
	"chimework/plain"
	"chimework/seq"
)

// wantError asks all five calls for an error, and for nothing beside it, whatever else they are given.
func wantError(t *testing.T, r api.Rule, start int, want api.Errno) {
	t.Helper()
	say := func(what string, result string, err error) {
		if told := plain.Told(err); told != want || result != "[] 0 false" {
			t.Errorf("%s of %+v, start %d: got %s, %v, want %v", what, r, start, result, err, want)
		}
	}
	for _, n := range []int{0, 1, maxCount, -1, maxCount + 1, math.MinInt, math.MaxInt} {
		list, err := seq.First(r, start, n)
		say("First", fmt.Sprint(list, 0, false), err)
	}
	for _, n := range []int{46341, 1, 0, lastDay, lastDay + 1, math.MinInt, math.MaxInt} {
		next, err := seq.Next(r, start, n)
		say("Next", fmt.Sprint([]int{}, next, false), err)
		has, err := seq.Has(r, start, n)
		say("Has", fmt.Sprint([]int{}, 0, has), err)
		for _, to := range []int{46341, lastDay, math.MinInt, math.MaxInt} {
			list, err := seq.Between(r, start, n, to)
			say("Between", fmt.Sprint(list, 0, false), err)
			list, err = seq.All(r, start, n, to)
			say("All", fmt.Sprint(list, 0, false), err)
		}
	}
	count, err := seq.Count(r, start)
	say("Count", fmt.Sprint([]int{}, count, false), err)
}

// fault is a rule that chapter 4's Check refuses, and its error.
type fault struct {
	rule api.Rule
	want api.Errno
}

// faults are of each thing that R1 names; where a rule has several, the one that R1 names first is wanted.
func faults() []fault {
	rule := func(freq int, change func(r *api.Rule)) api.Rule {
		r := api.Rule{Freq: freq, Every: 1}
		change(&r)
		return r
	}
	nothing := func(*api.Rule) {}
	every := func(n int) func(*api.Rule) { return func(r *api.Rule) { r.Every = n } }
	bounds := func(count, until int) func(*api.Rule) {
		return func(r *api.Rule) { r.Count, r.Until = count, until }
	}
	months := func(list ...int) func(*api.Rule) { return func(r *api.Rule) { r.Months = list } }
	days := func(list ...int) func(*api.Rule) { return func(r *api.Rule) { r.Days = list } }
	weeks := func(list ...api.Nth) func(*api.Rule) { return func(r *api.Rule) { r.Weeks = list } }
	pick := func(list ...int) func(*api.Rule) {
		return func(r *api.Rule) { r.Months, r.Pick = []int{1}, list }
	}
	return []fault{
		{api.Rule{}, api.ErrRange},
		{rule(0, nothing), api.ErrRange},
		{rule(5, nothing), api.ErrRange},
		{rule(math.MinInt, nothing), api.ErrRange},
		{rule(math.MaxInt, nothing), api.ErrRange},
		{rule(api.Daily, every(0)), api.ErrRange},
		{rule(api.Daily, every(51)), api.ErrRange},
		{rule(api.Weekly, every(-1)), api.ErrRange},
		{rule(api.Monthly, every(math.MinInt)), api.ErrRange},
		{rule(api.Yearly, every(math.MaxInt)), api.ErrRange},
		{rule(api.Daily, bounds(-1, 0)), api.ErrRange},
		{rule(api.Daily, bounds(201, 0)), api.ErrRange},
		{rule(api.Daily, bounds(201, 1)), api.ErrRange}, // ahead of the two together
		{rule(api.Daily, bounds(0, -1)), api.ErrRange},
		{rule(api.Daily, bounds(0, lastDay+1)), api.ErrRange},
		{rule(api.Daily, bounds(math.MinInt, math.MaxInt)), api.ErrRange},
		{rule(api.Daily, bounds(1, 1)), api.ErrShape},
		{rule(api.Yearly, bounds(200, lastDay)), api.ErrShape},
		{rule(api.Monthly, months(upTo(1, 13)...)), api.ErrFull},
		{rule(api.Monthly, days(upTo(-32, -1)...)), api.ErrFull},
		{rule(api.Monthly, weeks(make([]api.Nth, 21)...)), api.ErrFull},
		{rule(api.Monthly, pick(upTo(1, 21)...)), api.ErrFull},
		{rule(api.Monthly, months(0)), api.ErrRange},
		{rule(api.Monthly, months(13)), api.ErrRange},
		{rule(api.Monthly, days(0)), api.ErrRange},
		{rule(api.Monthly, days(-32)), api.ErrRange},
		{rule(api.Monthly, days(32)), api.ErrRange},
		{rule(api.Weekly, days(32)), api.ErrRange}, // ahead of Days of Weekly
		{rule(api.Monthly, weeks(api.Nth{})), api.ErrRange},
		{rule(api.Monthly, weeks(api.Nth{Weekday: 8})), api.ErrRange},
		{rule(api.Monthly, weeks(api.Nth{N: 6, Weekday: 1})), api.ErrRange},
		{rule(api.Monthly, weeks(api.Nth{N: -6, Weekday: 1})), api.ErrRange},
		{rule(api.Monthly, pick(0)), api.ErrRange},
		{rule(api.Monthly, pick(-32)), api.ErrRange},
		{rule(api.Monthly, pick(32)), api.ErrRange},
		{rule(api.Monthly, months(2, 1)), api.ErrClash},
		{rule(api.Monthly, days(1, 1)), api.ErrClash},
		{rule(api.Weekly, days(2, 1)), api.ErrClash}, // ahead of Days of Weekly
		{rule(api.Monthly, weeks(api.Nth{Weekday: 2}, api.Nth{Weekday: 1})), api.ErrClash},
		{rule(api.Monthly, pick(1, -1)), api.ErrClash},
		{rule(api.Daily, weeks(api.Nth{N: 1, Weekday: 1})), api.ErrShape},
		{rule(api.Weekly, weeks(api.Nth{N: -1, Weekday: 1})), api.ErrShape},
		{rule(api.Weekly, days(1)), api.ErrShape},
		{rule(api.Yearly, days(1)), api.ErrShape},
		{rule(api.Yearly, weeks(api.Nth{Weekday: 1})), api.ErrShape},
		{api.Rule{Freq: api.Monthly, Every: 1, Pick: []int{1}}, api.ErrShape},
	}
}

// Check's own error is told, whatever start and the other numbers are.
func TestRefusedRules(t *testing.T) {
	var kinds []api.Errno
	for _, f := range faults() {
		for _, start := range []int{1, 46341, lastDay, 0, -1, lastDay + 1, math.MinInt, math.MaxInt} {
			wantError(t, f.rule, start, f.want)
		}
		kinds = append(kinds, f.want)
	}
	for _, kind := range []api.Errno{api.ErrRange, api.ErrShape, api.ErrFull, api.ErrClash} {
		if !slices.Contains(kinds, kind) {
			t.Errorf("no rule has %v", kind)
		}
	}
}

// A start that is no day is ErrRange, also where the days would be none, or too many.
func TestStartThatIsNoDay(t *testing.T) {
	for _, text := range []string{"daily", "daily every 50", "daily count 1", "daily until 1900-01-01", "weekly on mo,su", "monthly on mo pick 1", "monthly months 2 days 30", "yearly", "yearly until 2199-12-31"} {
		for _, start := range noDays {
			wantError(t, ruleOf(t, text), start, api.ErrRange)
		}
	}
}

// spare gives a list with other things behind its length, which must stay, and must not be asked for.
func spare[T any](list []T, behind T) []T {
	whole := append(slices.Clone(list), behind, behind)
	return whole[:len(list)]
}

func TestListsStayAsTheyAre(t *testing.T) {
	made := func() api.Rule {
		return api.Rule{
			Freq: api.Monthly, Every: 1,
			Months: spare([]int{10, 11}, 12), Days: spare([]int{-30, 1, 9, 16, 30}, 23),
			Weeks: spare([]api.Nth{{Weekday: 1}}, api.Nth{Weekday: 7}), Pick: spare([]int{-1, 2}, 1),
		}
	}
	whole := func(r api.Rule) string {
		return fmt.Sprint(r, r.Months[:4], r.Days[:7], r.Weeks[:3], r.Pick[:4])
	}
	r := made()
	holdAll(t, r, 46341)
	if whole(r) != whole(made()) {
		t.Errorf("the lists were written into: got %v, want %v", whole(r), whole(made()))
	}
}

// Lists that are empty are as those that are nil, whatever stands behind them.
func TestEmptyListsAreNil(t *testing.T) {
	for freq := api.Daily; freq <= api.Yearly; freq++ {
		r := api.Rule{
			Freq: freq, Every: 1, Months: spare([]int{}, 1), Days: spare([]int{}, 5),
			Weeks: spare([]api.Nth{}, api.Nth{Weekday: 3}), Pick: spare([]int{}, 31),
		}
		want, _ := seq.First(api.Rule{Freq: freq, Every: 1}, 46341, maxCount)
		wantFirst(t, r, 46341, maxCount, want)
		behind := fmt.Sprint(r.Months[:2], r.Days[:2], r.Weeks[:2], r.Pick[:2])
		if behind != "[1 1] [5 5] [{0 3} {0 3}] [31 31]" {
			t.Errorf("frequency %d: behind the lists stands %s", freq, behind)
		}
	}
}

// What comes out is the caller's: writing into it changes neither the rule nor what comes out again.
func TestDaysAreFresh(t *testing.T) {
	r := ruleOf(t, "monthly months 1,6,11 days -1,1,16 on mo,tu,we pick -1,1")
	lists := func() [3][]int {
		first, _ := seq.First(r, 46341, 9)
		between, _ := seq.Between(r, 46341, 46341, 46341+1000)
		all, _ := seq.All(r, 46341, 46341, 46341+1000)
		return [3][]int{first, between, all}
	}
	text := fmt.Sprint(r, lists())
	for _, list := range lists() {
		if len(list) < 3 {
			t.Errorf("only %v came out", list)
		}
		for i := range list[:cap(list)] {
			list[:cap(list)][i] = -1
		}
	}
	if again := fmt.Sprint(r, lists()); again != text {
		t.Errorf("got %s, want %s", again, text)
	}
}
