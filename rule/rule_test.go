package rule_test

import (
	"fmt"
	"math"
	"reflect"
	"slices"
	"testing"

	"chimework/api"
	"chimework/plain"
	"chimework/rule"
)

// lastDay is written out, so that Until is held against a number that the program did not work out.
const lastDay = 109573

// P3's numbers, written out.
var errorNumbers = map[api.Errno]int{api.OK: 0, api.ErrRange: 1, api.ErrSyntax: 2, api.ErrShape: 3, api.ErrFull: 4, api.ErrClash: 7}

// far numbers, up to the ends of int.
var far = []int{
	math.MinInt, math.MinInt + 1, math.MinInt / 2, math.MinInt32, -lastDay, -1000,
	1000, lastDay + 1, math.MaxInt32, math.MaxUint32 + 2, math.MaxInt / 2, math.MaxInt - 1, math.MaxInt,
}

// near numbers reach beyond both ends of every list's.
var near = upTo(-40, 40)

func upTo(from, to int) []int {
	var list []int
	for n := from; n <= to; n++ {
		list = append(list, n)
	}
	return list
}

func without0(list []int) []int {
	return slices.DeleteFunc(list, func(n int) bool { return n == 0 })
}

func wantError(t *testing.T, what string, in any, err error, want api.Errno) {
	t.Helper()
	if told := plain.Told(err); told != want || int(told) != errorNumbers[want] {
		t.Errorf("%s(%+v): got error %v, want %v", what, in, err, want)
	}
}

// wantChecked asks Check, and Print, which must tell the same.
func wantChecked(t *testing.T, r api.Rule, want api.Errno) {
	t.Helper()
	wantError(t, "Check", r, rule.Check(r), want)
	text, err := rule.Print(r)
	wantError(t, "Print", r, err, want)
	if (text == "") != (want != api.OK) {
		t.Errorf("Print(%+v): got %q beside error %v", r, text, err)
	}
}

func within(n, from, to int) api.Errno {
	if n < from || n > to {
		return api.ErrRange
	}
	return api.OK
}

func TestNumbersThatStandAlone(t *testing.T) {
	ends := []int{api.MaxEvery - 1, 50, 51, 100, 199, 200, 201, lastDay - 1, lastDay}
	for _, n := range slices.Concat(near, ends, far) {
		wantChecked(t, api.Rule{Freq: n, Every: 1}, within(n, 1, 4))
		wantChecked(t, api.Rule{Freq: api.Daily, Every: n}, within(n, 1, 50))
		wantChecked(t, api.Rule{Freq: api.Weekly, Every: 1, Count: n}, within(n, 0, 200))
		wantChecked(t, api.Rule{Freq: api.Yearly, Every: 50, Until: n}, within(n, 0, lastDay))
	}
	wantChecked(t, api.Rule{}, api.ErrRange)
}

func TestCountAndUntil(t *testing.T) {
	for _, freq := range upTo(1, 4) {
		wantChecked(t, api.Rule{Freq: freq, Every: 1, Count: 1, Until: 1}, api.ErrShape)
		wantChecked(t, api.Rule{Freq: freq, Every: 50, Count: 200, Until: lastDay}, api.ErrShape)
		wantChecked(t, api.Rule{Freq: freq, Every: 1, Count: 201, Until: 1}, api.ErrRange)
		wantChecked(t, api.Rule{Freq: freq, Every: 1, Count: 1, Until: lastDay + 1}, api.ErrRange)
		wantChecked(t, api.Rule{Freq: freq, Every: 1, Count: 200}, api.OK)
		wantChecked(t, api.Rule{Freq: freq, Every: 1, Until: lastDay}, api.OK)
	}
}

func TestNumbersOfLists(t *testing.T) {
	place := func(n int) api.Errno {
		if n == 0 {
			return api.ErrRange
		}
		return within(n, -31, 31)
	}
	for _, n := range slices.Concat(near, far) {
		wantChecked(t, api.Rule{Freq: api.Yearly, Every: 1, Months: []int{n}}, within(n, 1, 12))
		wantChecked(t, api.Rule{Freq: api.Monthly, Every: 1, Days: []int{n}}, place(n))
		wantChecked(t, api.Rule{Freq: api.Monthly, Every: 1, Weeks: []api.Nth{{N: n, Weekday: 1}}}, within(n, -5, 5))
		wantChecked(t, api.Rule{Freq: api.Monthly, Every: 1, Weeks: []api.Nth{{N: n, Weekday: 7}}}, within(n, -5, 5))
		wantChecked(t, api.Rule{Freq: api.Daily, Every: 1, Weeks: []api.Nth{{Weekday: n}}}, within(n, 1, 7))
		wantChecked(t, api.Rule{Freq: api.Monthly, Every: 1, Weeks: []api.Nth{{N: 5, Weekday: n}}}, within(n, 1, 7))
		wantChecked(t, api.Rule{Freq: api.Weekly, Every: 1, Months: []int{1}, Pick: []int{n}}, place(n))
	}
}

// Each place of a list is looked at, also where the list still rises.
func TestNumbersAtEachPlace(t *testing.T) {
	for i := range 12 {
		months, days, weeks, pick := upTo(1, 12), upTo(1, 12), manyWeeks(12), upTo(1, 12)
		months[i], days[i], weeks[i].N, pick[i] = 13, 0, 6, -32
		wantChecked(t, api.Rule{Freq: api.Monthly, Every: 1, Months: months}, api.ErrRange)
		wantChecked(t, api.Rule{Freq: api.Monthly, Every: 1, Days: days}, api.ErrRange)
		wantChecked(t, api.Rule{Freq: api.Monthly, Every: 1, Weeks: weeks}, api.ErrRange)
		wantChecked(t, api.Rule{Freq: api.Monthly, Every: 1, Days: []int{1}, Pick: pick}, api.ErrRange)
	}
}

// manyWeeks rise, five of a weekday.
func manyWeeks(count int) []api.Nth {
	var list []api.Nth
	for i := range count {
		list = append(list, api.Nth{N: i%5 + 1, Weekday: i/5 + 1})
	}
	return list
}

func TestLengthsOfLists(t *testing.T) {
	allPlaces := without0(upTo(-31, 31))
	full := api.Rule{
		Freq: api.Monthly, Every: 50, Count: 200,
		Months: upTo(1, 12), Days: allPlaces[:31], Weeks: manyWeeks(20), Pick: allPlaces[:20],
	}
	wantChecked(t, full, api.OK)
	r := full
	r.Months = upTo(1, 13)
	wantChecked(t, r, api.ErrFull)
	r = full
	r.Days = allPlaces[:32]
	wantChecked(t, r, api.ErrFull)
	r = full
	r.Weeks = manyWeeks(21)
	wantChecked(t, r, api.ErrFull)
	r = full
	r.Pick = allPlaces[:21]
	wantChecked(t, r, api.ErrFull)
	r.Months, r.Days, r.Weeks, r.Pick = make([]int, 1000), make([]int, 1000), make([]api.Nth, 1000), make([]int, 1000)
	wantChecked(t, r, api.ErrFull)
}

// Every pair of numbers is held against each other: what stands still does not rise.
func TestPairsRise(t *testing.T) {
	rising := func(less bool) api.Errno {
		if less {
			return api.OK
		}
		return api.ErrClash
	}
	for _, a := range without0(upTo(-31, 31)) {
		for _, b := range without0(upTo(-31, 31)) {
			want, pair := rising(a < b), []int{a, b}
			wantChecked(t, api.Rule{Freq: api.Monthly, Every: 1, Days: pair}, want)
			wantChecked(t, api.Rule{Freq: api.Weekly, Every: 1, Months: []int{6}, Pick: pair}, want)
			if min(a, b) >= 1 && max(a, b) <= 12 {
				wantChecked(t, api.Rule{Freq: api.Daily, Every: 1, Months: pair}, want)
			}
		}
	}
}

func TestPairsOfWeeksRise(t *testing.T) {
	// In R1's order: by Weekday, then by N.
	var weeks []api.Nth
	for weekday := 1; weekday <= 7; weekday++ {
		for n := -5; n <= 5; n++ {
			weeks = append(weeks, api.Nth{N: n, Weekday: weekday})
		}
	}
	for i, a := range weeks {
		for j, b := range weeks {
			want := api.ErrClash
			if i < j {
				want = api.OK
			}
			wantChecked(t, api.Rule{Freq: api.Monthly, Every: 1, Weeks: []api.Nth{a, b}}, want)
		}
	}
}

func TestLongListsRise(t *testing.T) {
	for i := 1; i < 12; i++ {
		still, back, weeks := upTo(1, 12), upTo(1, 12), manyWeeks(12)
		still[i] = still[i-1]
		back[i], back[i-1] = back[i-1], back[i]
		weeks[i], weeks[i-1] = weeks[i-1], weeks[i]
		for _, list := range [][]int{still, back} {
			wantChecked(t, api.Rule{Freq: api.Monthly, Every: 1, Months: list}, api.ErrClash)
			wantChecked(t, api.Rule{Freq: api.Monthly, Every: 1, Days: list}, api.ErrClash)
			wantChecked(t, api.Rule{Freq: api.Monthly, Every: 1, Months: []int{1}, Pick: list}, api.ErrClash)
		}
		wantChecked(t, api.Rule{Freq: api.Monthly, Every: 1, Weeks: weeks}, api.ErrClash)
	}
}

// shapeOf is what R1 says of how things go together, sentence by sentence.
func shapeOf(r api.Rule) api.Errno {
	months, days, weeks, pick := len(r.Months) > 0, len(r.Days) > 0, len(r.Weeks) > 0, len(r.Pick) > 0
	numbered := slices.ContainsFunc(r.Weeks, func(w api.Nth) bool { return w.N != 0 })
	wrong := numbered && (r.Freq == api.Daily || r.Freq == api.Weekly) ||
		days && r.Freq == api.Weekly ||
		(days || weeks) && !months && r.Freq == api.Yearly ||
		pick && !months && !days && !weeks
	if wrong {
		return api.ErrShape
	}
	return api.OK
}

// eachShape calls a function with a rule of each frequency and each choice of lists.
func eachShape(f func(api.Rule)) {
	weeks := [][]api.Nth{nil, {{Weekday: 1}, {Weekday: 7}}, {{N: -5, Weekday: 2}, {N: 5, Weekday: 2}}, {{Weekday: 3}, {N: 1, Weekday: 3}}, {{N: -1, Weekday: 4}, {Weekday: 5}}}
	for freq := api.Daily; freq <= api.Yearly; freq++ {
		for _, months := range [][]int{nil, {12}, {1, 2, 11}} {
			for _, days := range [][]int{nil, {-31}, {-1, 1, 31}} {
				for _, on := range weeks {
					for _, pick := range [][]int{nil, {31}, {-31, -2, 10}} {
						f(api.Rule{Freq: freq, Every: 1, Months: months, Days: days, Weeks: on, Pick: pick})
					}
				}
			}
		}
	}
}

func TestShapes(t *testing.T) {
	eachShape(func(r api.Rule) { wantChecked(t, r, shapeOf(r)) })
}

// Shapes that R1 names, written out.
func TestShapesWrittenOut(t *testing.T) {
	mondays, thirdMonday := []api.Nth{{Weekday: 1}}, []api.Nth{{N: 3, Weekday: 1}}
	cases := []struct {
		r    api.Rule
		want api.Errno
	}{
		{api.Rule{Freq: api.Daily, Weeks: mondays}, api.OK},
		{api.Rule{Freq: api.Daily, Weeks: thirdMonday}, api.ErrShape},
		{api.Rule{Freq: api.Daily, Days: []int{-1}}, api.OK},
		{api.Rule{Freq: api.Daily, Pick: []int{1}}, api.ErrShape},
		{api.Rule{Freq: api.Weekly, Weeks: mondays}, api.OK},
		{api.Rule{Freq: api.Weekly, Weeks: thirdMonday}, api.ErrShape},
		{api.Rule{Freq: api.Weekly, Months: []int{1}, Weeks: thirdMonday}, api.ErrShape},
		{api.Rule{Freq: api.Weekly, Days: []int{1}}, api.ErrShape},
		{api.Rule{Freq: api.Weekly, Months: []int{1}, Days: []int{1}}, api.ErrShape},
		{api.Rule{Freq: api.Monthly, Weeks: thirdMonday}, api.OK},
		{api.Rule{Freq: api.Monthly, Days: []int{31}, Weeks: thirdMonday, Pick: []int{-1}}, api.OK},
		{api.Rule{Freq: api.Monthly, Pick: []int{-1}}, api.ErrShape},
		{api.Rule{Freq: api.Yearly, Weeks: mondays}, api.ErrShape},
		{api.Rule{Freq: api.Yearly, Weeks: thirdMonday}, api.ErrShape},
		{api.Rule{Freq: api.Yearly, Days: []int{1}}, api.ErrShape},
		{api.Rule{Freq: api.Yearly, Days: []int{1}, Weeks: mondays, Pick: []int{1}}, api.ErrShape},
		{api.Rule{Freq: api.Yearly, Months: []int{2}, Days: []int{1}, Weeks: thirdMonday, Pick: []int{1}}, api.OK},
		{api.Rule{Freq: api.Yearly, Months: []int{2}, Pick: []int{1}}, api.OK},
		{api.Rule{Freq: api.Yearly, Pick: []int{1}}, api.ErrShape},
	}
	for _, c := range cases {
		c.r.Every = 1
		wantChecked(t, c.r, c.want)
	}
}

// fault of a rule: its place in R1's order, its error, the fields that it sets, and how.
type fault struct {
	place  int
	err    api.Errno
	fields string
	set    func(r *api.Rule)
}

var faults = []fault{
	{1, api.ErrRange, "f", func(r *api.Rule) { r.Freq = 0 }},
	{1, api.ErrRange, "f", func(r *api.Rule) { r.Freq = 5 }},
	{1, api.ErrRange, "e", func(r *api.Rule) { r.Every = 0 }},
	{1, api.ErrRange, "e", func(r *api.Rule) { r.Every = 51 }},
	{1, api.ErrRange, "c", func(r *api.Rule) { r.Count = -1 }},
	{1, api.ErrRange, "c", func(r *api.Rule) { r.Count = 201 }},
	{1, api.ErrRange, "u", func(r *api.Rule) { r.Until = -1 }},
	{1, api.ErrRange, "u", func(r *api.Rule) { r.Until = lastDay + 1 }},
	{2, api.ErrShape, "cu", func(r *api.Rule) { r.Count, r.Until = 200, 1 }},
	{3, api.ErrFull, "m", func(r *api.Rule) { r.Months = upTo(1, 13) }},
	{3, api.ErrFull, "d", func(r *api.Rule) { r.Days = upTo(-32, -1) }},
	{3, api.ErrFull, "w", func(r *api.Rule) { r.Weeks = manyWeeks(21) }},
	{3, api.ErrFull, "p", func(r *api.Rule) { r.Pick = upTo(1, 21) }},
	{4, api.ErrRange, "m", func(r *api.Rule) { r.Months = []int{2, 1, 13} }},
	{4, api.ErrRange, "d", func(r *api.Rule) { r.Days = []int{1, 1, 0} }},
	{4, api.ErrRange, "w", func(r *api.Rule) { r.Weeks = []api.Nth{{Weekday: 2}, {Weekday: 1}, {Weekday: 8}} }},
	{4, api.ErrRange, "w", func(r *api.Rule) { r.Weeks = []api.Nth{{N: 1, Weekday: 1}, {N: -6, Weekday: 1}} }},
	{4, api.ErrRange, "p", func(r *api.Rule) { r.Pick = []int{-1, -32} }},
	{5, api.ErrClash, "m", func(r *api.Rule) { r.Months = []int{1, 1} }},
	{5, api.ErrClash, "d", func(r *api.Rule) { r.Days = []int{1, -1} }},
	{5, api.ErrClash, "w", func(r *api.Rule) { r.Weeks = []api.Nth{{N: 1, Weekday: 2}, {N: 2, Weekday: 1}} }},
	{5, api.ErrClash, "p", func(r *api.Rule) { r.Pick = []int{31, 30} }},
	{6, api.ErrShape, "fw", func(r *api.Rule) { r.Freq, r.Weeks = api.Daily, []api.Nth{{N: 1, Weekday: 1}} }},
	{6, api.ErrShape, "fw", func(r *api.Rule) { r.Freq, r.Weeks = api.Weekly, []api.Nth{{Weekday: 1}, {N: 1, Weekday: 1}} }},
	{6, api.ErrShape, "fd", func(r *api.Rule) { r.Freq, r.Days = api.Weekly, []int{1} }},
	{6, api.ErrShape, "fmd", func(r *api.Rule) { r.Freq, r.Months, r.Days = api.Yearly, nil, []int{1} }},
	{6, api.ErrShape, "fmw", func(r *api.Rule) { r.Freq, r.Months, r.Weeks = api.Yearly, nil, []api.Nth{{Weekday: 1}} }},
	{6, api.ErrShape, "mdwp", func(r *api.Rule) { r.Months, r.Days, r.Weeks, r.Pick = nil, nil, nil, []int{1} }},
}

func (f fault) apartFrom(g fault) bool {
	for _, field := range f.fields {
		if slices.Contains([]rune(g.fields), field) {
			return false
		}
	}
	return true
}

// Of every two of these faults that set different fields the one that R1 names first is told.
func TestFirstFaultIsTold(t *testing.T) {
	for _, f := range faults {
		for _, g := range faults {
			r := api.Rule{Freq: api.Monthly, Every: 1, Months: []int{1}}
			f.set(&r)
			first := f
			if f.apartFrom(g) {
				g.set(&r)
				if g.place < f.place {
					first = g
				}
			}
			wantChecked(t, r, first.err)
		}
	}
}

// spare gives a list with other things behind its length, which must stay.
func spare[T any](list []T, behind T) []T {
	whole := append(slices.Clone(list), behind, behind)
	return whole[:len(list)]
}

func TestListsStayAsTheyAre(t *testing.T) {
	made := func() api.Rule {
		return api.Rule{
			Freq: api.Monthly, Every: 2, Count: 3,
			Months: spare([]int{1, 12}, -7), Days: spare([]int{-1, 1}, -7),
			Weeks: spare([]api.Nth{{N: 1, Weekday: 1}}, api.Nth{N: 9, Weekday: 9}), Pick: spare([]int{2}, -7),
		}
	}
	whole := func(r api.Rule) string {
		return fmt.Sprint(r, r.Months[:4], r.Days[:4], r.Weeks[:3], r.Pick[:3])
	}
	r := made()
	wantChecked(t, r, api.OK)
	if whole(r) != whole(made()) {
		t.Errorf("the lists were written into: got %v, want %v", whole(r), whole(made()))
	}
}

func TestEmptyListsAreNil(t *testing.T) {
	for freq := api.Daily; freq <= api.Yearly; freq++ {
		r := api.Rule{Freq: freq, Every: 1, Months: []int{}, Days: spare([]int{}, 99), Weeks: []api.Nth{}, Pick: spare([]int{}, 99)}
		wantChecked(t, r, api.OK)
		got, _ := rule.Print(r)
		if want, _ := rule.Print(api.Rule{Freq: freq, Every: 1}); got != want {
			t.Errorf("Print of empty lists: got %q, want %q", got, want)
		}
	}
}

// same holds rules against each other; an empty list and nil are the same.
func same(a, b api.Rule) bool {
	numbers := a.Freq == b.Freq && a.Every == b.Every && a.Count == b.Count && a.Until == b.Until
	return numbers && slices.Equal(a.Months, b.Months) && slices.Equal(a.Days, b.Days) && slices.Equal(a.Weeks, b.Weeks) && slices.Equal(a.Pick, b.Pick)
}

func isEmpty(r api.Rule) bool { return reflect.DeepEqual(r, api.Rule{}) }
