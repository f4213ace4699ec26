package seq_test

import (
	"math"
	"slices"
	"strings"
	"testing"
	"time"

	"chimework/api"
	"chimework/plain"
	"chimework/rule"
	"chimework/seq"
)

// The numbers are written out, so that they are held against ones that the program did not work out.
const (
	lastDay  = 109573
	maxCount = 200
)

// noDays are none, up to the ends of int.
var noDays = []int{
	math.MinInt, math.MinInt + 1, math.MinInt / 2, math.MinInt32, -lastDay, -366, -1, 0,
	lastDay + 1, lastDay + 2, lastDay + 366, math.MaxInt32, math.MaxInt / 2, math.MaxInt - 1, math.MaxInt,
}

// moment of the library's calendar that a day is.
func moment(n int) time.Time { return time.Date(1900, 1, n, 0, 0, 0, 0, time.UTC) }

// numberOf a moment. By seconds: a Duration does not reach over all years.
func numberOf(m time.Time) int { return int(m.Unix()-moment(0).Unix()) / 86400 }

// daysOf dates, `YYYY-MM-DD`, blanks between.
func daysOf(t *testing.T, text string) []int {
	t.Helper()
	var list []int
	for _, word := range strings.Fields(text) {
		m, err := time.Parse(time.DateOnly, word)
		if err != nil {
			t.Fatal(err)
		}
		list = append(list, numberOf(m))
	}
	return list
}

func dayOf(t *testing.T, text string) int {
	t.Helper()
	return daysOf(t, text)[0]
}

func ruleOf(t *testing.T, text string) api.Rule {
	t.Helper()
	r, err := rule.Parse(text)
	if err != nil {
		t.Fatalf("%q: %v", text, err)
	}
	return r
}

// upTo lists the numbers from one to another one.
func upTo(from, to int) []int {
	var list []int
	for n := from; n <= to; n++ {
		list = append(list, n)
	}
	return list
}

func wantFirst(t *testing.T, r api.Rule, start, n int, want []int) {
	t.Helper()
	if got, err := seq.First(r, start, n); !slices.Equal(got, want) || err != nil {
		t.Errorf("First(%+v, %d, %d): got %v, %v, want %v", r, start, n, got, err, want)
	}
}

// wantNext asks for ErrNone where the day that is wanted is 0.
func wantNext(t *testing.T, r api.Rule, start, after, want int) {
	t.Helper()
	told := api.OK
	if want == 0 {
		told = api.ErrNone
	}
	if got, err := seq.Next(r, start, after); got != want || plain.Told(err) != told {
		t.Errorf("Next(%+v, %d, %d): got %d, %v, want %d, %v", r, start, after, got, err, want, told)
	}
}

func wantBetween(t *testing.T, r api.Rule, start, from, to int, want []int) {
	t.Helper()
	if got, err := seq.Between(r, start, from, to); !slices.Equal(got, want) || err != nil {
		t.Errorf("Between(%+v, %d, %d, %d): got %v, %v, want %v", r, start, from, to, got, err, want)
	}
}

func wantEach(t *testing.T, r api.Rule, start, from, to int, want []int) {
	t.Helper()
	if got, err := seq.All(r, start, from, to); !slices.Equal(got, want) || err != nil {
		t.Errorf("All(%+v, %d, %d, %d): got %v, %v, want %v", r, start, from, to, got, err, want)
	}
}

func wantFull(t *testing.T, r api.Rule, start, from, to int) {
	t.Helper()
	if got, err := seq.Between(r, start, from, to); len(got) != 0 || plain.Told(err) != api.ErrFull {
		t.Errorf("Between(%+v, %d, %d, %d): got %v, %v, want ErrFull", r, start, from, to, got, err)
	}
}

func wantHas(t *testing.T, r api.Rule, start, n int, want bool) {
	t.Helper()
	if got, err := seq.Has(r, start, n); got != want || err != nil {
		t.Errorf("Has(%+v, %d, %d): got %v, %v, want %v", r, start, n, got, err, want)
	}
}

func wantCount(t *testing.T, r api.Rule, start, want int) {
	t.Helper()
	if got, err := seq.Count(r, start); got != want || err != nil {
		t.Errorf("Count(%+v, %d): got %d, %v, want %d", r, start, got, err, want)
	}
}

// wantAll asks all five calls for THE DAYS, of which there are few enough to be written out.
func wantAll(t *testing.T, r api.Rule, start int, want []int) {
	t.Helper()
	wantFirst(t, r, start, maxCount, want)
	wantCount(t, r, start, len(want))
	wantBetween(t, r, start, math.MinInt, math.MaxInt, want)
	ahead := math.MinInt
	for _, n := range want {
		wantNext(t, r, start, ahead, n)
		wantHas(t, r, start, n-1, ahead == n-1)
		wantHas(t, r, start, n, true)
		ahead = n
	}
	wantNext(t, r, start, ahead, 0)
	wantHas(t, r, start, ahead+1, false)
}

func TestFirst(t *testing.T) {
	cases := []struct{ rule, want string }{ // the first one is start
		{"daily", "2026-11-16 2026-11-17 2026-11-18"},
		{"daily", "1900-01-01 1900-01-02 1900-01-03"},
		{"daily every 3", "2026-12-30 2027-01-02 2027-01-05"},
		{"daily every 50", "2024-02-28 2024-04-18 2024-06-07"},
		{"daily on mo", "2026-11-16 2026-11-23 2026-11-30"},
		{"daily on mo", "2026-11-18 2026-11-23 2026-11-30"}, // start is a Wednesday
		{"daily every 2 on mo", "2026-11-18 2026-11-30 2026-12-14"},
		{"daily days -1", "2026-11-16 2026-11-30 2026-12-31 2027-01-31 2027-02-28"},
		{"daily months 2 days 29", "2026-11-16 2028-02-29 2032-02-29"},
		{"weekly", "2026-11-16 2026-11-23 2026-11-30"},
		{"weekly every 2", "2026-11-22 2026-12-06 2026-12-20 2027-01-03"},
		{"weekly on tu,su", "2026-11-18 2026-11-22 2026-11-24 2026-11-29"}, // the Tuesday of start's week is ahead of it
		{"weekly every 2 on tu,su", "2026-11-18 2026-11-22 2026-12-01 2026-12-06 2026-12-15"},
		{"weekly on mo,tu,su pick 1", "2026-11-18 2026-11-23 2026-11-30"},
		{"weekly on mo,tu,su pick -1", "2026-11-18 2026-11-22 2026-11-29"},
		{"weekly months 1", "2026-11-18 2027-01-06 2027-01-13 2027-01-20 2027-01-27 2028-01-05"},
		{"monthly", "2026-11-16 2026-12-16 2027-01-16 2027-02-16"},
		{"monthly", "2026-01-31 2026-03-31 2026-05-31 2026-07-31 2026-08-31"},
		{"monthly every 12", "2024-02-29 2028-02-29 2032-02-29"},
		{"monthly days -1,15", "2026-11-16 2026-11-30 2026-12-15 2026-12-31"},
		{"monthly days 20", "2026-11-16 2026-11-20 2026-12-20"},
		{"monthly on mo pick 1", "2026-11-16 2026-12-07 2027-01-04"}, // start is the third Monday, the first one is ahead of it
		{"monthly on mo pick 2,4", "2026-11-16 2026-11-23 2026-12-14 2026-12-28"},
		{"monthly on mo pick -1", "2026-11-16 2026-11-30 2026-12-28"},
		{"monthly on mo pick 3", "2026-11-16 2026-12-21 2027-01-18"}, // start once
		{"monthly days 13 on fr", "2026-11-16 2027-08-13 2028-10-13"},
		{"yearly", "2026-11-16 2027-11-16 2028-11-16"},
		{"yearly", "2024-02-29 2028-02-29 2032-02-29"},
		{"yearly", "2096-02-29 2104-02-29 2108-02-29"},
		{"yearly every 3", "2024-02-29 2036-02-29 2048-02-29"},
		{"yearly months 6", "2026-11-16 2027-06-16 2028-06-16"}, // June of start's year is ahead of it
		{"yearly months 6,12", "2026-11-16 2026-12-16 2027-06-16"},
		{"yearly months 3,10 on -1su", "2026-11-16 2027-03-28 2027-10-31 2028-03-26"},
		{"yearly months 1,12 days -1,1 pick -1", "2026-11-16 2026-12-31 2027-12-31"},
		{"yearly months 2 days 29 on su", "2026-11-16 2032-02-29 2060-02-29 2088-02-29 2128-02-29"},
	}
	for _, c := range cases {
		r, want := ruleOf(t, c.rule), daysOf(t, c.want)
		for n := range len(want) + 1 {
			wantFirst(t, r, want[0], n, want[:n])
		}
	}
}

// countedCase has a rule, start, and all of THE DAYS.
type countedCase struct{ rule, start, want string }

func holdCounted(t *testing.T, cases []countedCase) {
	t.Helper()
	for _, c := range cases {
		wantAll(t, ruleOf(t, c.rule), dayOf(t, c.start), daysOf(t, c.want))
	}
}

func TestCountBounds(t *testing.T) {
	holdCounted(t, []countedCase{
		{"daily count 1", "2026-11-16", "2026-11-16"},
		{"daily count 2", "2026-11-16", "2026-11-16 2026-11-17"},
		{"daily every 50 count 3", "2026-11-16", "2026-11-16 2027-01-05 2027-02-24"},
		{"weekly count 1 on tu,su", "2026-11-18", "2026-11-18"}, // start counts, though the rule does not ask for it
		{"weekly count 3 on tu,su", "2026-11-18", "2026-11-18 2026-11-22 2026-11-24"},
		{"weekly count 3 on tu,we", "2026-11-18", "2026-11-18 2026-11-24 2026-11-25"}, // the Tuesday ahead does not
		{"monthly count 3 on mo pick 1", "2026-11-16", "2026-11-16 2026-12-07 2027-01-04"},
		{"monthly count 2", "2026-01-31", "2026-01-31 2026-03-31"},
		{"yearly count 2 months 2 days 29 on su", "2090-01-01", "2090-01-01 2128-02-29"},
		{"yearly count 3", "2096-02-29", "2096-02-29 2104-02-29 2108-02-29"},
		{"daily count 2", "2199-12-31", "2199-12-31"}, // more than there are
		{"weekly count 200", "2199-12-20", "2199-12-20 2199-12-27"},
		{"monthly count 200", "2199-10-31", "2199-10-31 2199-12-31"},
		{"yearly count 200", "2198-12-31", "2198-12-31 2199-12-31"},
	})
}

func TestUntilBounds(t *testing.T) {
	holdCounted(t, []countedCase{
		{"daily until 2026-11-18", "2026-11-16", "2026-11-16 2026-11-17 2026-11-18"},
		{"daily until 2026-11-17", "2026-11-16", "2026-11-16 2026-11-17"},
		{"daily until 2026-11-16", "2026-11-16", "2026-11-16"}, // at start
		{"daily until 2026-11-15", "2026-11-16", ""},           // a day ahead of it
		{"daily until 1900-01-01", "2026-11-16", ""},
		{"daily until 1900-01-01", "1900-01-01", "1900-01-01"},
		{"daily until 2199-12-31", "2199-12-30", "2199-12-30 2199-12-31"},
		{"daily every 3 until 2026-11-21", "2026-11-16", "2026-11-16 2026-11-19"}, // between two of the rule
		{"daily every 3 until 2026-11-22", "2026-11-16", "2026-11-16 2026-11-19 2026-11-22"},
		{"weekly until 2026-11-23 on tu,su", "2026-11-18", "2026-11-18 2026-11-22"},
		{"weekly until 2026-11-24 on tu,su", "2026-11-18", "2026-11-18 2026-11-22 2026-11-24"},
		{"weekly until 2026-11-17 on tu,su", "2026-11-18", ""}, // a day that the rule asks for, but ahead of start
		{"monthly until 2026-12-15", "2026-11-16", "2026-11-16"},
		{"monthly until 2026-12-16", "2026-11-16", "2026-11-16 2026-12-16"},
		{"monthly until 2026-12-28 on mo pick -1", "2026-11-16", "2026-11-16 2026-11-30 2026-12-28"},
		{"monthly until 2026-12-27 on mo pick -1", "2026-11-16", "2026-11-16 2026-11-30"}, // Pick is of the whole month
		{"yearly until 2028-02-28", "2024-02-29", "2024-02-29"},
		{"yearly until 2028-02-29", "2024-02-29", "2024-02-29 2028-02-29"},
		{"yearly until 2024-02-28", "2024-02-29", ""},
		{"yearly until 2024-03-01 months 6", "2024-02-29", "2024-02-29"},
	})
}

func TestEndsOfTheCalendar(t *testing.T) {
	holdCounted(t, []countedCase{
		{"daily", "2199-12-31", "2199-12-31"},
		{"daily", "2199-12-29", "2199-12-29 2199-12-30 2199-12-31"},
		{"daily every 2", "2199-12-28", "2199-12-28 2199-12-30"},
		{"weekly", "2199-12-31", "2199-12-31"},
		{"weekly", "2199-12-24", "2199-12-24 2199-12-31"}, // the last week ends on a Tuesday
		{"weekly", "2199-12-25", "2199-12-25"},
		{"weekly on mo,tu,we", "2199-12-26", "2199-12-26 2199-12-30 2199-12-31"},
		{"monthly", "2199-12-31", "2199-12-31"},
		{"monthly", "2199-11-30", "2199-11-30 2199-12-30"},
		{"monthly every 50", "2199-11-30", "2199-11-30"},
		{"monthly days 1", "2199-12-31", "2199-12-31"}, // the 1st is ahead of start
		{"yearly", "2199-12-31", "2199-12-31"},
		{"yearly", "2198-01-01", "2198-01-01 2199-01-01"},
		{"yearly every 50", "2149-06-01", "2149-06-01 2199-06-01"},
		{"yearly every 50", "2150-06-01", "2150-06-01"},
		{"yearly every 50", "1900-01-01", "1900-01-01 1950-01-01 2000-01-01 2050-01-01 2100-01-01 2150-01-01"},
		{"yearly every 50 months 2 days 29", "1900-01-01", "1900-01-01 2000-02-29"},
	})
}

// Every period up to the last day is looked through, and start alone is there.
func TestNoDayBehindStart(t *testing.T) {
	t.Parallel()
	for _, text := range []string{
		"daily months 2 days 30", "daily days 16 pick 2", "daily months 4 days 31",
		"weekly months 2 pick 6", "weekly on mo,su pick 3",
		"monthly months 2 days 30", "monthly months 2,4 days 31", "monthly on mo pick 6", "monthly on 5mo pick 2", "monthly days 1 on 2mo",
		"yearly months 2 days 30", "yearly months 4,6,9,11 days -31", "yearly months 1 on mo pick -31,31", "yearly months 2 days 1 on -1su",
		"yearly every 4 months 2 days 29", // of years that are not leap, from 1901 on
	} {
		for _, start := range []int{366, 46341 - 365, lastDay} {
			r := ruleOf(t, text)
			wantAll(t, r, start, []int{start})
			r.Count = maxCount
			wantAll(t, r, start, []int{start})
			r.Count, r.Until = 0, lastDay
			wantAll(t, r, start, []int{start})
		}
	}
}

// A rule may ask for a day only after many years.
func TestAfterManyYears(t *testing.T) {
	holdCounted(t, []countedCase{
		{"daily until 2100-01-01 months 2 days 29 on su", "2033-01-01", "2033-01-01 2060-02-29 2088-02-29"},
		{"weekly every 50 until 2150-01-01 months 2 pick 7", "2026-11-18", "2026-11-18"},
		{"monthly every 48 months 2 days 29 on mo", "1900-02-01", "1900-02-01 1904-02-29 1932-02-29 1960-02-29 1988-02-29 2016-02-29 2044-02-29 2072-02-29 2112-02-29 2140-02-29 2168-02-29 2196-02-29"},
		{"yearly months 2 days 29 on fr", "2092-03-01", "2092-03-01 2104-02-29 2132-02-29 2160-02-29 2188-02-29"},
		{"yearly every 50 months 2 days 29", "1950-06-01", "1950-06-01 2000-02-29"},
		{"yearly every 49 months 12 days 31 on tu", "1905-01-01", "1905-01-01 2052-12-31 2199-12-31"}, // the last one is the last day,
	})
}

func TestFirstOfN(t *testing.T) {
	daily := ruleOf(t, "daily")
	wantFirst(t, daily, 46341, 0, nil)
	wantFirst(t, daily, 46341, 1, []int{46341})
	wantFirst(t, daily, 46341, 199, upTo(46341, 46341+198))
	wantFirst(t, daily, 46341, 200, upTo(46341, 46341+199))
	wantFirst(t, daily, lastDay-199, 200, upTo(lastDay-199, lastDay))
	wantFirst(t, daily, lastDay-198, 200, upTo(lastDay-198, lastDay)) // fewer than asked for
	wantFirst(t, ruleOf(t, "daily count 200"), 1, 200, upTo(1, 200))
	wantFirst(t, ruleOf(t, "daily count 200"), 1, 199, upTo(1, 199))
	wantFirst(t, ruleOf(t, "daily count 3"), 1, 200, upTo(1, 3))
	wantFirst(t, ruleOf(t, "daily count 3"), 1, 2, upTo(1, 2))
	wantFirst(t, ruleOf(t, "daily until 1900-01-01"), 2, 200, nil)
	wantFirst(t, ruleOf(t, "daily until 1900-01-01"), 2, 0, nil)
}

func TestFirstOfAWrongN(t *testing.T) {
	for _, text := range []string{"daily", "daily count 1", "weekly until 1900-01-01", "monthly", "yearly"} {
		for _, start := range []int{1, 46341, lastDay} {
			for _, n := range []int{-1, -2, -200, math.MinInt32, math.MinInt + 1, math.MinInt, 201, 202, 400, math.MaxInt32, math.MaxInt - 1, math.MaxInt} {
				got, err := seq.First(ruleOf(t, text), start, n)
				if told := plain.Told(err); len(got) != 0 || told != api.ErrRange || int(told) != 1 {
					t.Errorf("First(%q, %d, %d): got %v, %v, want ErrRange", text, start, n, got, err)
				}
			}
		}
	}
}

func TestNext(t *testing.T) {
	cases := []struct{ rule, start, after, want string }{
		{"daily", "2026-11-16", "2026-11-15", "2026-11-16"},
		{"daily", "2026-11-16", "1900-01-01", "2026-11-16"}, // far ahead of start
		{"daily", "2026-11-16", "2026-11-16", "2026-11-17"}, // at start
		{"daily", "2026-11-16", "2199-12-30", "2199-12-31"},
		{"daily every 3", "2026-11-16", "2026-11-18", "2026-11-19"},
		{"daily every 3", "2026-11-16", "2026-11-19", "2026-11-22"},
		{"weekly on tu,su", "2026-11-18", "2026-11-16", "2026-11-18"}, // not the Tuesday, which is ahead of start
		{"weekly on tu,su", "2026-11-18", "2026-11-17", "2026-11-18"},
		{"weekly on tu,su", "2026-11-18", "2026-11-18", "2026-11-22"},
		{"weekly on tu,su", "2026-11-18", "2031-01-01", "2031-01-05"},
		{"weekly every 50 on su", "2026-11-16", "2026-11-22", "2027-11-07"},
		{"monthly", "2026-01-31", "2026-01-31", "2026-03-31"},
		{"monthly", "2026-01-31", "2026-03-30", "2026-03-31"},
		{"monthly", "1900-01-31", "2199-11-30", "2199-12-31"},
		{"yearly", "2024-02-29", "2024-02-29", "2028-02-29"},
		{"yearly", "2024-02-29", "2096-02-28", "2096-02-29"},
		{"yearly", "2024-02-29", "2096-02-29", "2104-02-29"},
		{"yearly months 2 days 29 on su", "2026-11-16", "2088-02-29", "2128-02-29"},
		{"yearly", "1900-12-31", "2199-12-30", "2199-12-31"},
		{"daily count 3", "2026-11-16", "2026-11-17", "2026-11-18"},
		{"daily until 2026-11-18", "2026-11-16", "2026-11-17", "2026-11-18"},
	}
	for _, c := range cases {
		wantNext(t, ruleOf(t, c.rule), dayOf(t, c.start), dayOf(t, c.after), dayOf(t, c.want))
	}
}

func TestNextOfNone(t *testing.T) {
	cases := []struct{ rule, start, after string }{
		{"daily", "2026-11-16", "2199-12-31"},
		{"daily", "2199-12-31", "2199-12-31"},
		{"daily every 50", "2199-12-01", "2199-12-01"},
		{"daily count 1", "2026-11-16", "2026-11-16"},
		{"daily count 3", "2026-11-16", "2026-11-18"}, // the last of them
		{"daily count 3", "2026-11-16", "2026-12-18"},
		{"daily until 2026-11-18", "2026-11-16", "2026-11-18"},
		{"daily until 2026-11-18", "2026-11-16", "2100-01-01"},
		{"daily every 3 until 2026-11-18", "2026-11-16", "2026-11-16"},
		{"daily until 2026-11-15", "2026-11-16", "1900-01-01"}, // there are none at all
		{"weekly", "2026-11-16", "2199-12-30"},
		{"monthly", "2026-11-16", "2199-12-16"},
		{"monthly", "2026-01-31", "2199-12-31"},
		{"yearly", "2026-11-16", "2199-11-16"},
		{"yearly", "2024-02-29", "2196-02-29"},
	}
	for _, c := range cases {
		r, start, after := ruleOf(t, c.rule), dayOf(t, c.start), dayOf(t, c.after)
		wantNext(t, r, start, after, 0)
		_, err := seq.Next(r, start, after)
		if told := plain.Told(err); int(told) != 5 {
			t.Errorf("%v: got the number %d, want that of ErrNone", c, told)
		}
	}
}

func TestBetween(t *testing.T) {
	cases := []struct{ rule, start, from, to, want string }{
		{"daily", "2026-11-16", "2026-11-16", "2026-11-16", "2026-11-16"},
		{"daily", "2026-11-16", "2026-11-14", "2026-11-17", "2026-11-16 2026-11-17"},
		{"daily", "2026-11-16", "2026-11-14", "2026-11-15", ""},
		{"daily", "2026-11-16", "2026-11-18", "2026-11-17", ""}, // to one ahead of it
		{"daily", "2026-11-16", "2026-11-16", "2026-11-15", ""},
		{"daily", "2026-11-16", "2199-12-31", "1900-01-01", ""},
		{"daily every 3", "2026-11-16", "2026-11-17", "2026-11-18", ""}, // between two of the rule
		{"daily every 3", "2026-11-16", "2026-11-19", "2026-11-22", "2026-11-19 2026-11-22"},
		{"daily every 3", "2026-11-16", "2026-11-20", "2026-11-21", ""},
		{"weekly on tu,su", "2026-11-18", "2026-11-16", "2026-11-24", "2026-11-18 2026-11-22 2026-11-24"},
		{"weekly on tu,su", "2026-11-18", "2026-11-16", "2026-11-17", ""}, // ahead of start
		{"weekly on tu,su", "2026-11-18", "2026-11-17", "2026-11-17", ""},
		{"weekly on tu,su", "2026-11-18", "2031-01-01", "2031-01-07", "2031-01-05 2031-01-07"},
		{"monthly", "2026-01-31", "2026-02-01", "2026-05-31", "2026-03-31 2026-05-31"},
		{"monthly", "2026-01-31", "2026-04-01", "2026-04-30", ""},
		{"monthly on mo pick 1", "2026-11-16", "2026-11-01", "2026-12-31", "2026-11-16 2026-12-07"},
		{"monthly", "1900-01-31", "2199-10-01", "2199-12-31", "2199-10-31 2199-12-31"},
		{"yearly", "2024-02-29", "2024-03-01", "2032-02-29", "2028-02-29 2032-02-29"},
		{"yearly months 6", "2026-11-16", "2026-01-01", "2027-12-31", "2026-11-16 2027-06-16"},
		{"yearly", "1900-12-31", "2198-12-31", "2199-12-31", "2198-12-31 2199-12-31"},
		{"daily count 3", "2026-11-16", "2026-11-17", "2026-11-30", "2026-11-17 2026-11-18"}, // those ahead of from count
		{"daily count 3", "2026-11-16", "2026-11-19", "2026-11-30", ""},
		{"daily until 2026-11-18", "2026-11-16", "2026-11-18", "2026-11-30", "2026-11-18"},
		{"daily until 2026-11-18", "2026-11-16", "2026-11-19", "2026-11-30", ""},
		{"daily until 2026-11-18", "2026-11-16", "2026-11-16", "2026-11-17", "2026-11-16 2026-11-17"},
	}
	for _, c := range cases {
		wantBetween(t, ruleOf(t, c.rule), dayOf(t, c.start), dayOf(t, c.from), dayOf(t, c.to), daysOf(t, c.want))
	}
}

func TestBetweenIsFull(t *testing.T) {
	daily := ruleOf(t, "daily")
	wantBetween(t, daily, 46341, 46341, 46341+199, upTo(46341, 46341+199))
	wantFull(t, daily, 46341, 46341, 46341+200)
	wantBetween(t, daily, 46341, -5, 46341+199, upTo(46341, 46341+199)) // those ahead of start are none
	wantFull(t, daily, 46341, -5, 46341+200)
	wantBetween(t, daily, 1, 50001, 50200, upTo(50001, 50200))
	wantFull(t, daily, 1, 50001, 50201)
	wantBetween(t, daily, 1, lastDay-199, lastDay+9, upTo(lastDay-199, lastDay))
	wantFull(t, daily, 1, lastDay-200, lastDay+9)
	wantFull(t, daily, lastDay-200, math.MinInt, math.MaxInt)
	wantBetween(t, daily, lastDay-199, math.MinInt, math.MaxInt, upTo(lastDay-199, lastDay))
	wantBetween(t, ruleOf(t, "daily count 200"), 46341, math.MinInt, math.MaxInt, upTo(46341, 46341+199))
	r := api.Rule{Freq: api.Daily, Every: 1, Until: 46341 + 199}
	wantBetween(t, r, 46341, math.MinInt, math.MaxInt, upTo(46341, 46341+199))
	r.Until++
	wantFull(t, r, 46341, math.MinInt, math.MaxInt)
	for _, text := range []string{"weekly", "monthly", "yearly"} {
		wantFull(t, ruleOf(t, text), 1, 1, lastDay)
	}
	_, err := seq.Between(daily, 1, 1, lastDay)
	if told := plain.Told(err); int(told) != 4 {
		t.Errorf("got the number %d, want that of ErrFull", told)
	}
}

func TestHas(t *testing.T) {
	cases := []struct {
		rule, start, n string
		want           bool
	}{
		{"daily", "2026-11-16", "2026-11-15", false},
		{"daily", "2026-11-16", "2026-11-16", true},
		{"daily", "2026-11-16", "2199-12-31", true},
		{"daily every 3", "2026-11-16", "2026-11-18", false},
		{"daily every 3", "2026-11-16", "2026-11-19", true},
		{"weekly on tu,su", "2026-11-18", "2026-11-17", false}, // ahead of start
		{"weekly on tu,su", "2026-11-18", "2026-11-18", true},  // start, a Wednesday
		{"weekly on tu,su", "2026-11-18", "2026-11-22", true},
		{"weekly on tu,su", "2026-11-18", "2026-11-25", false}, // another Wednesday
		{"monthly", "2026-01-31", "2026-02-28", false},
		{"monthly", "2026-01-31", "2026-03-31", true},
		{"monthly on mo pick 1", "2026-11-16", "2026-11-02", false},
		{"monthly on mo pick 1", "2026-11-16", "2026-12-07", true},
		{"monthly", "1900-01-31", "2199-12-31", true},
		{"yearly", "2024-02-29", "2025-02-28", false},
		{"yearly", "2024-02-29", "2025-03-01", false},
		{"yearly", "2024-02-29", "2196-02-29", true},
		{"daily count 3", "2026-11-16", "2026-11-18", true},
		{"daily count 3", "2026-11-16", "2026-11-19", false},
		{"daily until 2026-11-18", "2026-11-16", "2026-11-18", true},
		{"daily until 2026-11-18", "2026-11-16", "2026-11-19", false},
		{"daily until 2026-11-15", "2026-11-16", "2026-11-16", false}, // start is behind Until
	}
	for _, c := range cases {
		wantHas(t, ruleOf(t, c.rule), dayOf(t, c.start), dayOf(t, c.n), c.want)
	}
}

func TestCount(t *testing.T) {
	cases := []struct {
		rule, start string
		want        int
	}{
		{"daily until 1900-01-01", "1900-01-02", 0},
		{"daily until 1900-01-01", "1900-01-01", 1},
		{"daily", "2199-12-31", 1},
		{"daily", "2199-12-30", 2},
		{"daily", "2199-06-15", 200}, // just MaxCount
		{"daily", "2199-06-14", 201},
		{"daily", "2199-06-13", 201}, // more is not told
		{"daily", "1900-01-01", 201},
		{"daily count 1", "1900-01-01", 1},
		{"daily count 199", "1900-01-01", 199},
		{"daily count 200", "1900-01-01", 200},
		{"weekly", "1900-01-01", 201},
		{"weekly count 200 on mo,tu", "1900-01-03", 200},
		{"weekly until 1900-12-31", "1900-01-01", 53},
		{"weekly until 1900-12-30", "1900-01-01", 52},
		{"monthly", "1900-01-01", 201},
		{"monthly until 1916-08-01", "1900-01-01", 200},
		{"monthly until 1916-09-01", "1900-01-01", 201},
		{"yearly", "1900-01-01", 201},
		{"yearly", "1999-12-31", 201},
		{"yearly", "2000-01-01", 200},
		{"yearly", "2024-02-29", 43}, // each fourth year to 2196, but not 2100
		{"yearly every 50", "1900-01-01", 6},
	}
	for _, c := range cases {
		wantCount(t, ruleOf(t, c.rule), dayOf(t, c.start), c.want)
	}
}

// Numbers that are no days are asked about as any others: nothing is there.
func TestNumbersThatAreNoDays(t *testing.T) {
	for _, text := range []string{"daily", "daily every 50", "weekly on mo,su", "monthly", "monthly on mo pick -1", "yearly", "daily count 200", "yearly until 2199-12-31"} {
		r := ruleOf(t, text)
		for _, start := range []int{1, 2, 46341, lastDay - 1, lastDay} {
			for _, n := range noDays {
				wantHas(t, r, start, n, false)
				wantBetween(t, r, start, n, n, nil)
				if n < 1 {
					wantNext(t, r, start, n, start)
					wantBetween(t, r, start, n, start, []int{start})
					wantBetween(t, r, start, start, n, nil)
				} else {
					wantNext(t, r, start, n, 0)
					wantBetween(t, r, start, n, start, nil)
					wantBetween(t, r, start, n, math.MaxInt, nil)
				}
			}
			wantBetween(t, r, start, math.MaxInt, math.MinInt, nil)
		}
		wantBetween(t, r, lastDay, math.MinInt, math.MaxInt, []int{lastDay})
	}
}

// All is bound by the stretch alone.
func TestAll(t *testing.T) {
	daily := api.Rule{Freq: api.Daily, Every: 1}
	for _, many := range []int{0, 1, maxCount, maxCount + 1, 5 * maxCount} {
		var want []int
		for n := range many {
			want = append(want, 46341+n)
		}
		wantEach(t, daily, 46341, 0, 46340+many, want)
		wantEach(t, daily, 1, 46341, 46340+many, want)
	}
	days, err := seq.All(daily, 1, math.MinInt, math.MaxInt)
	if len(days) != lastDay || days[lastDay-1] != lastDay || err != nil {
		t.Errorf("All: got %d days, %v, want %d", len(days), err, lastDay)
	}
}
