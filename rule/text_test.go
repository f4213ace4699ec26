package rule_test

import (
	"regexp"
	"slices"
	"strconv"
	"strings"
	"testing"
	"time"

	"chimework/api"
	"chimework/plain"
	"chimework/rule"
)

// pairs of a rule and its text.
var pairs = []struct {
	r    api.Rule
	text string
}{
	{api.Rule{Freq: api.Daily, Every: 1}, "daily"},
	{api.Rule{Freq: api.Weekly, Every: 1}, "weekly"},
	{api.Rule{Freq: api.Monthly, Every: 1}, "monthly"},
	{api.Rule{Freq: api.Yearly, Every: 1}, "yearly"},
	{api.Rule{Freq: api.Daily, Every: 2}, "daily every 2"},
	{api.Rule{Freq: api.Daily, Every: 50}, "daily every 50"},
	{api.Rule{Freq: api.Weekly, Every: 1, Count: 1}, "weekly count 1"},
	{api.Rule{Freq: api.Weekly, Every: 10, Count: 200}, "weekly every 10 count 200"},
	{api.Rule{Freq: api.Monthly, Every: 1, Until: 1}, "monthly until 1900-01-01"},
	{api.Rule{Freq: api.Monthly, Every: 1, Until: 1520}, "monthly until 1904-02-29"},
	{api.Rule{Freq: api.Monthly, Every: 1, Until: 46341}, "monthly until 2026-11-16"},
	{api.Rule{Freq: api.Yearly, Every: 3, Until: lastDay}, "yearly every 3 until 2199-12-31"},
	{api.Rule{Freq: api.Daily, Every: 1, Months: []int{1}}, "daily months 1"},
	{api.Rule{Freq: api.Yearly, Every: 1, Months: upTo(1, 12)}, "yearly months 1,2,3,4,5,6,7,8,9,10,11,12"},
	{api.Rule{Freq: api.Monthly, Every: 1, Days: []int{-31, -1, 1, 31}}, "monthly days -31,-1,1,31"},
	{api.Rule{Freq: api.Daily, Every: 1, Days: upTo(1, 31)}, "daily days 1,2,3,4,5,6,7,8,9,10,11,12,13,14,15,16,17,18,19,20,21,22,23,24,25,26,27,28,29,30,31"},
	{api.Rule{Freq: api.Weekly, Every: 1, Weeks: []api.Nth{{Weekday: 1}, {Weekday: 2}, {Weekday: 3}, {Weekday: 4}, {Weekday: 5}, {Weekday: 6}, {Weekday: 7}}}, "weekly on mo,tu,we,th,fr,sa,su"},
	{api.Rule{Freq: api.Monthly, Every: 1, Weeks: []api.Nth{{N: -5, Weekday: 1}, {N: -1, Weekday: 1}, {Weekday: 1}, {N: 1, Weekday: 1}, {N: 5, Weekday: 1}, {N: 3, Weekday: 7}}}, "monthly on -5mo,-1mo,mo,1mo,5mo,3su"},
	{api.Rule{Freq: api.Monthly, Every: 1, Weeks: manyWeeks(20)}, "monthly on 1mo,2mo,3mo,4mo,5mo,1tu,2tu,3tu,4tu,5tu,1we,2we,3we,4we,5we,1th,2th,3th,4th,5th"},
	{api.Rule{Freq: api.Weekly, Every: 1, Weeks: []api.Nth{{Weekday: 6}}, Pick: []int{-31, 31}}, "weekly on sa pick -31,31"},
	{api.Rule{Freq: api.Monthly, Every: 1, Days: []int{1}, Pick: upTo(1, 20)}, "monthly days 1 pick 1,2,3,4,5,6,7,8,9,10,11,12,13,14,15,16,17,18,19,20"},
	{
		api.Rule{Freq: api.Yearly, Every: 4, Count: 12, Months: []int{2, 10}, Days: []int{-1, 9}, Weeks: []api.Nth{{N: -2, Weekday: 5}, {Weekday: 7}}, Pick: []int{-1, 2}},
		"yearly every 4 count 12 months 2,10 days -1,9 on -2fr,su pick -1,2",
	},
	{
		api.Rule{Freq: api.Monthly, Every: 20, Until: 36584, Months: []int{12}, Days: []int{20}, Weeks: []api.Nth{{N: 4, Weekday: 4}}, Pick: []int{10}},
		"monthly every 20 until 2000-02-29 months 12 days 20 on 4th pick 10",
	},
}

func wantBoth(t *testing.T, r api.Rule, text string) {
	t.Helper()
	if got, err := rule.Print(r); got != text || err != nil {
		t.Errorf("Print(%+v): got %q, %v, want %q", r, got, err, text)
	}
	if got, err := rule.Parse(text); !same(got, r) || err != nil {
		t.Errorf("Parse(%q): got %+v, %v, want %+v", text, got, err, r)
	}
}

func TestPrintAndParse(t *testing.T) {
	for _, p := range pairs {
		wantBoth(t, p.r, p.text)
	}
}

func TestEachNumberIsWrittenAndRead(t *testing.T) {
	words := []string{"mo", "tu", "we", "th", "fr", "sa", "su"}
	for n := 2; n <= 50; n++ {
		wantBoth(t, api.Rule{Freq: api.Daily, Every: n}, "daily every "+strconv.Itoa(n))
	}
	for n := 1; n <= 200; n++ {
		wantBoth(t, api.Rule{Freq: api.Yearly, Every: 1, Count: n}, "yearly count "+strconv.Itoa(n))
	}
	for n := 1; n <= 12; n++ {
		wantBoth(t, api.Rule{Freq: api.Weekly, Every: 1, Months: []int{n}}, "weekly months "+strconv.Itoa(n))
	}
	for _, n := range without0(upTo(-31, 31)) {
		wantBoth(t, api.Rule{Freq: api.Monthly, Every: 1, Days: []int{n}}, "monthly days "+strconv.Itoa(n))
		wantBoth(t, api.Rule{Freq: api.Daily, Every: 1, Months: []int{7}, Pick: []int{n}}, "daily months 7 pick "+strconv.Itoa(n))
	}
	for i, word := range words {
		wantBoth(t, api.Rule{Freq: api.Daily, Every: 1, Weeks: []api.Nth{{Weekday: i + 1}}}, "daily on "+word)
		for _, n := range without0(upTo(-5, 5)) {
			wantBoth(t, api.Rule{Freq: api.Monthly, Every: 1, Weeks: []api.Nth{{N: n, Weekday: i + 1}}}, "monthly on "+strconv.Itoa(n)+word)
		}
	}
}

func TestUntilEachDay(t *testing.T) {
	for n := 1; n <= lastDay; n++ {
		date := time.Date(1900, 1, n, 0, 0, 0, 0, time.UTC).Format(time.DateOnly)
		wantBoth(t, api.Rule{Freq: api.Weekly, Every: 1, Until: n}, "weekly until "+date)
	}
}

// What is written is read as it was, whichever lists it has.
func TestEachShapeIsReadAsItWas(t *testing.T) {
	eachShape(func(r api.Rule) {
		for _, bound := range [][3]int{{1, 0, 0}, {50, 0, 0}, {2, 200, 0}, {1, 0, 59}, {7, 0, lastDay}, {1, 1, 0}} {
			r.Every, r.Count, r.Until = bound[0], bound[1], bound[2]
			text, err := rule.Print(r)
			if shapeOf(r) != api.OK {
				wantError(t, "Print", r, err, api.ErrShape)
				continue
			}
			if got, bad := rule.Parse(text); err != nil || bad != nil || !same(got, r) {
				t.Errorf("Parse(%q): got %+v, %v, want %+v", text, got, bad, r)
			}
		}
	})
}

func wantRefused(t *testing.T, text string, want api.Errno) {
	t.Helper()
	r, err := rule.Parse(text)
	wantError(t, "Parse", strconv.Quote(text), err, want)
	if !isEmpty(r) {
		t.Errorf("Parse(%q): got %+v beside an error, want an empty rule", text, r)
	}
}

func TestParseSyntax(t *testing.T) {
	wrong := []string{
		// none at all, and first words that are none
		"", " ", "  ", ",", "-", "0", "1", "x", "every", "every 2", "count 2", "until 2026-11-16", "months 1", "on mo", "mo", "Daily", "DAILY", "dail", "dailyy", "day", "dayly", "hourly", "\x00", "\xff", "täglich",
		// blanks too many, and others
		" daily", "daily ", "daily  every 2", "daily every  2", "daily every 2 ", "daily\tevery 2", "daily every 2\n", "daily\n", "daily\x00", "daily\u00a0every 2", "daily every\u00a02", "monthly days 1, 2", "monthly days 1 ,2", "monthly days 1 2", "dailyevery 2", "daily every2", "daily months1", "monthly on 1 mo", "daily until 2026 11 16", "daily until 2026-11-16 00:01", "daily until 2026-11-16 ",
		// words without their numbers, numbers without their words, and others' words
		"daily every", "daily every ", "daily count", "daily until", "daily months", "daily months ", "daily days", "daily on", "daily on ", "daily pick", "daily months 1 pick", "daily 2", "daily mo", "daily 2026-11-16", "daily every 2 3", "daily every every 2", "daily every count 2", "daily weekly", "daily daily", "daily every 2 daily", "daily month 1", "daily day 1", "daily by 1", "daily Every 2", "daily every two", "daily months jan", "daily on monday", "daily on Mo", "daily on MO", "daily on xx", "daily on m", "daily on o", "daily on 1", "monthly on -", "monthly on -mo", "monthly on 1", "monthly on mo1", "monthly on momo", "monthly on 1m", "monthly on 1 mo", "monthly on 1mo2", "monthly on --1mo", "monthly days mo", "daily on 2026-11-16",
		// out of their order, or twice
		"daily count 2 every 2", "daily until 2026-11-16 every 2", "daily until 2026-11-16 count 2", "daily months 1 every 2", "daily months 1 count 2", "daily months 1 until 2026-11-16", "daily days 1 months 1", "daily on mo days 1", "daily on mo months 1", "daily pick 1 on mo", "daily pick 1 months 1", "daily every 2 every 2", "daily every 2 every 3", "daily count 2 count 2", "daily until 2026-11-16 until 2026-11-16", "daily months 1 months 2", "daily days 1 days 2", "daily on mo on tu", "daily months 1 pick 1 pick 1", "every 2 daily",
		// what is not written
		"daily every 1", "daily count 0", "daily every 1 count 2", "daily every 2 count 0", "monthly on 0mo", "monthly on -0mo", "monthly on 1mo,0tu", "daily every +2", "daily count +1", "monthly days +1", "monthly on +1mo",
		// a needless 0, and what is no number
		"daily every 01", "daily every 02", "daily every 002", "daily every 00", "daily every -0", "daily every -02", "daily count 00", "daily count -0", "daily count 01", "daily months 01", "daily months 00", "daily months -0", "daily days 01", "daily days -01", "daily days -0", "daily days 00", "monthly on 01mo", "monthly on -01mo", "monthly on 00mo", "daily days 1 pick 01", "daily days 1 pick -0", "daily every --2", "daily every 2-", "daily every -", "daily every 2x", "daily every 0x2", "daily every 2.0", "daily every 1e1", "daily every 1_0", "daily days 1_0", "daily days ٢", "daily every ２", "daily days \xff", "daily days 1\x80",
		// five digits and more
		"daily every 10000", "daily every 99999", "daily every -10000", "daily every 00002", "daily count 10000", "daily count -10000", "daily months 10000", "daily days 12345", "daily days -12345", "monthly on 10000mo", "monthly on -10000mo", "daily days 1 pick 10000", "daily every 9223372036854775807", "daily every 9223372036854775809", "daily every 18446744073709551618", "daily every 4294967298", "daily days " + strings.Repeat("1", 1000), "daily count " + strings.Repeat("0", 1000) + "1",
		// commas
		"daily months ,", "daily months ,1", "daily months 1,", "daily months 1,,2", "daily months 1;2", "daily days ,1", "daily days 1,", "daily days -1,,1", "daily on ,mo", "daily on mo,", "daily on mo,,tu", "daily on mo;tu", "daily days 1 pick ,1", "daily days 1 pick 1,", "daily every 2,3", "daily count 2,3", "daily until 2026-11-16,2026-11-17", "daily, every 2", "daily,every,2",
		// dates that are none
		"daily until 0", "daily until 46341", "daily until 2026-02-29", "daily until 2026-02-30", "daily until 1900-02-29", "daily until 2100-02-29", "daily until 2026-00-10", "daily until 2026-13-10", "daily until 2026-04-31", "daily until 2026-01-00", "daily until 2026-01-32", "daily until 1899-12-31", "daily until 2200-01-01", "daily until 0000-01-01", "daily until 9999-12-31", "daily until 2026-1-10", "daily until 2026-01-1", "daily until 26-01-10", "daily until 02026-01-10", "daily until 2026-001-10", "daily until 2026-01-010", "daily until 2026/01/10", "daily until 2026-01/10", "daily until 20260110", "daily until -2026-01-10", "daily until +026-01-10", "daily until 2026--1-10", "daily until 2026-01--1", "daily until 2026-01-1x", "daily until 2026-01-1\xff", "daily until 2026-01-10x", "daily until x2026-01-10", "daily until ２026-01-10",
	}
	for _, text := range wrong {
		wantRefused(t, text, api.ErrSyntax)
	}
}

func TestParseTellsWhatCheckTells(t *testing.T) {
	cases := map[api.Errno][]string{
		api.ErrRange: {
			"daily every 0", "daily every -1", "daily every 51", "daily every 9999", "daily every -9999", "daily count -1", "daily count 201", "daily count 9999", "daily count -9999",
			"daily months 0", "daily months -1", "daily months 13", "daily months 1,13", "daily months 9999", "daily days 0", "daily days -1,0,1", "daily days 32", "daily days -32", "daily days -9999",
			"monthly on 6mo", "monthly on -6su", "monthly on 9999mo", "monthly on -9999mo", "daily days 1 pick 0", "daily days 1 pick 32", "daily days 1 pick -32", "daily pick 0",
			"daily count 201 until 2026-11-16", "daily every 0 count 2 until 2026-11-16", "daily months 2,1 days 32", "weekly days 0", "yearly on 6mo", "daily months 1,1 pick 0",
		},
		api.ErrShape: {
			"daily count 1 until 2026-11-16", "daily count 1 until 2026-11-16 months 13", "daily on 1mo", "weekly on -1su", "weekly on mo,1mo", "weekly days 1", "weekly months 1 days 1", "yearly days 1", "yearly on mo", "yearly on 1mo", "yearly days 1 on mo pick 1",
			"daily pick 1", "weekly pick -1", "monthly pick 1", "yearly pick 1", "monthly count 5 pick 1",
		},
		api.ErrFull: {
			"daily months 1,2,3,4,5,6,7,8,9,10,11,12,13", "daily months 1,1,1,1,1,1,1,1,1,1,1,1,1", "daily days 1" + strings.Repeat(",1", 31), "daily on mo" + strings.Repeat(",mo", 20), "daily days 1 pick 1" + strings.Repeat(",1", 20), "daily pick 0" + strings.Repeat(",0", 20),
			"daily days 0" + strings.Repeat(",0", 5000), "weekly on 9mo" + strings.Repeat(",9mo", 5000),
		},
		api.ErrClash: {
			"daily months 2,1", "daily months 1,1", "daily days 1,-1", "daily days 1,1", "daily on tu,mo", "daily on mo,mo", "monthly on 1mo,-1mo", "monthly on 1mo,mo", "monthly on 2tu,1we,1tu", "daily days 1 pick 2,1", "daily days 1 pick 1,-1", "daily pick 2,1", "yearly days 1,1", "weekly days 2,1", "daily on 2mo,1mo",
		},
	}
	for want, texts := range cases {
		for _, text := range texts {
			wantRefused(t, text, want)
		}
	}
}

var (
	rulePattern = strings.NewReplacer(
		"LIST", `((?:NUMBER)(?:,(?:NUMBER))*)`, "WEEKS", `((?:WEEK)(?:,(?:WEEK))*)`,
	).Replace(`\A(daily|weekly|monthly|yearly)(?: every (NUMBER))?(?: count (NUMBER))?(?: until (\d{4}-\d\d-\d\d))?(?: months LIST)?(?: days LIST)?(?: on WEEKS)?(?: pick LIST)?\z`)
	wholeRule = regexp.MustCompile(strings.NewReplacer(
		"NUMBER", `0|-?[1-9]\d{0,3}`, "WEEK", `(?:-?[1-9]\d{0,3})?(?:mo|tu|we|th|fr|sa|su)`,
	).Replace(rulePattern))
)

func numbersOf(text string) []int {
	var list []int
	for _, piece := range strings.FieldsFunc(text, func(c rune) bool { return c == ',' }) {
		n, _ := strconv.Atoi(piece)
		list = append(list, n)
	}
	return list
}

func weeksOf(text string) []api.Nth {
	var list []api.Nth
	for _, piece := range strings.FieldsFunc(text, func(c rune) bool { return c == ',' }) {
		word := piece[len(piece)-2:]
		n, _ := strconv.Atoi(strings.TrimSuffix(piece, word))
		list = append(list, api.Nth{N: n, Weekday: strings.Index("motuwethfrsasu", word)/2 + 1})
	}
	return list
}

// ruleOf is what Parse must answer, told by the library's patterns and calendar; Check is tested by itself.
func ruleOf(text string) (api.Rule, api.Errno) {
	m := wholeRule.FindStringSubmatch(text)
	if m == nil || m[2] == "1" || m[3] == "0" {
		return api.Rule{}, api.ErrSyntax
	}
	freqs := map[string]int{"daily": 1, "weekly": 2, "monthly": 3, "yearly": 4}
	r := api.Rule{Freq: freqs[m[1]], Every: 1, Months: numbersOf(m[5]), Days: numbersOf(m[6]), Weeks: weeksOf(m[7]), Pick: numbersOf(m[8])}
	if m[2] != "" {
		r.Every, _ = strconv.Atoi(m[2])
	}
	r.Count, _ = strconv.Atoi(m[3])
	if m[4] != "" {
		date, err := time.Parse(time.DateOnly, m[4])
		if err != nil || date.Year() < 1900 || date.Year() > 2199 {
			return api.Rule{}, api.ErrSyntax
		}
		r.Until = int(date.Unix()-time.Date(1900, 1, 1, 0, 0, 0, 0, time.UTC).Unix())/86400 + 1
	}
	if err := rule.Check(r); err != nil {
		return api.Rule{}, plain.Told(err)
	}
	return r, api.OK
}

func holdParse(t *testing.T, text string) {
	t.Helper()
	want, wrong := ruleOf(text)
	got, err := rule.Parse(text)
	if !same(got, want) || plain.Told(err) != wrong || err != nil && !isEmpty(got) {
		t.Errorf("Parse(%q): got %+v, %v, want %+v, %v", text, got, err, want, wrong)
	}
	if err != nil {
		return
	}
	if again, err := rule.Print(got); again != text || err != nil {
		t.Errorf("Print(Parse(%q)): got %q, %v", text, again, err)
	}
}

// TestParseEachSign lays each sign over, into and out of each place of a text, and cuts it there.
func TestParseEachSign(t *testing.T) {
	for _, p := range pairs {
		for place := range len(p.text) + 1 {
			for _, sign := range []byte("\x00\n +,-./012359:adehmosuy\x7f\x80\xff") {
				holdParse(t, p.text[:place]+string([]byte{sign})+p.text[place:])
				if place < len(p.text) {
					holdParse(t, p.text[:place]+string([]byte{sign})+p.text[place+1:])
				}
			}
			holdParse(t, p.text[:place])
			holdParse(t, p.text[place:])
			if place < len(p.text) {
				holdParse(t, p.text[:place]+p.text[place+1:])
			}
		}
	}
}

// TestParseEachWord takes words out, doubles them and lets them change places.
func TestParseEachWord(t *testing.T) {
	hold := func(words []string) { holdParse(t, strings.Join(words, " ")) }
	for _, p := range pairs {
		words := strings.Split(p.text, " ")
		for i := range words {
			hold(slices.Delete(slices.Clone(words), i, i+1))
			hold(slices.Insert(slices.Clone(words), i, words[i]))
			for j := range words {
				changed := slices.Clone(words)
				changed[i], changed[j] = changed[j], changed[i]
				hold(changed)
				hold(slices.Insert(slices.Clone(words), i, words[j]))
			}
		}
	}
}

// TestParseFewWords goes over every text of up to five of these words.
func TestParseFewWords(t *testing.T) {
	words := []string{"", "weekly", "monthly", "every", "count", "months", "on", "pick", "0", "1", "2", "mo", "-1mo,tu"}
	texts := []string{"daily", "monthly", "yearly"}
	for range 4 {
		var longer []string
		for _, text := range texts {
			for _, word := range words {
				longer = append(longer, text+" "+word)
			}
		}
		for _, text := range longer {
			holdParse(t, text)
		}
		texts = longer
	}
}

// TestParseEachNumber goes over all that may stand as a number, of up to four signs.
func TestParseEachNumber(t *testing.T) {
	numbers := []string{""}
	for range 4 {
		for _, number := range slices.Clone(numbers) {
			for _, sign := range []string{"-", "0", "1", "5", ","} {
				numbers = append(numbers, number+sign)
			}
		}
	}
	for _, number := range numbers {
		for _, text := range []string{"daily every ", "daily count ", "daily months ", "monthly days ", "daily months 1 pick "} {
			holdParse(t, text+number)
		}
		holdParse(t, "monthly on "+number+"th")
	}
}

// What comes out shares no memory: neither with another answer, nor list with list.
func TestParsedListsAreFresh(t *testing.T) {
	text := "monthly months 1,2,3 days 1,2,3 on 1mo,2mo,3mo pick 1,2,3"
	want, _ := ruleOf(text)
	r, err := rule.Parse(text)
	if err != nil {
		t.Fatal(err)
	}
	for _, list := range [][]int{r.Months[:cap(r.Months)], r.Days[:cap(r.Days)]} {
		for i := range list {
			list[i] = -99
		}
	}
	if !slices.Equal(r.Pick, want.Pick) || !slices.Equal(r.Weeks, want.Weeks) {
		t.Errorf("lists of one rule share memory: %+v", r)
	}
	if again, err := rule.Parse(text); !same(again, want) || err != nil {
		t.Errorf("Parse(%q), again: got %+v, %v, want %+v", text, again, err, want)
	}
}
