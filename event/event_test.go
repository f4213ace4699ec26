package event_test

import (
	"math"
	"strings"
	"testing"
	"time"

	"chimework/api"
	"chimework/event"
	"chimework/plain"
	"chimework/rule"
)

// The numbers are written out, so that they are held against ones that the program did not work out.
const (
	lastDay  = 109573
	lastTime = 157785119
	mostSpan = 1000000
	mostList = 100
	mostFull = 200
)

// noTimes are none, up to the ends of int.
var noTimes = []int{
	math.MinInt, math.MinInt + 1, math.MinInt + mostSpan, math.MinInt / 2, math.MinInt32, -lastTime, -mostSpan, -1440, -2, -1, 0,
	lastTime + 1, lastTime + 2, lastTime + 1440, lastTime + mostSpan, math.MaxInt32, math.MaxInt / 2, math.MaxInt - mostSpan, math.MaxInt - 1, math.MaxInt,
}

// notFrom lists numbers below one and above another one, up to the ends of int.
func notFrom(least, most int) []int {
	return []int{math.MinInt, math.MinInt + 1, math.MinInt32, least - 2, least - 1, most + 1, most + 2, math.MaxInt32, math.MaxInt - 1, math.MaxInt}
}

// moment of the library's calendar that a time is.
func moment(t int) time.Time { return time.Date(1900, 1, 1, 0, t, 0, 0, time.UTC) }

// timesOf texts, `YYYY-MM-DD HH:MM`, commas between, by the library's calendar.
func timesOf(t *testing.T, text string) []int {
	t.Helper()
	var list []int
	for _, word := range strings.Split(text, ",") {
		if word == "" {
			continue
		}
		m, err := time.Parse("2006-01-02 15:04", word)
		if err != nil {
			t.Fatal(err)
		}
		list = append(list, int(m.Unix()-moment(0).Unix())/60)
	}
	return list
}

func timeOf(t *testing.T, text string) int {
	t.Helper()
	return timesOf(t, text)[0]
}

// once makes an event that is at one time.
func once(start int) api.Event { return api.Event{Name: "a", Start: start} }

// repeated makes an event that repeats by a rule, as it is written.
func repeated(t *testing.T, start int, text string) api.Event {
	t.Helper()
	r, err := rule.Parse(text)
	if err != nil {
		t.Fatalf("%q: %v", text, err)
	}
	return api.Event{Name: "a", Start: start, Repeats: true, Rule: r}
}

// rising lists so many numbers, each by so much above the one ahead.
func rising(first, by, many int) []int {
	var list []int
	for i := range many {
		list = append(list, first+i*by)
	}
	return list
}

// changesAt times: all of them called off.
func changesAt(times ...int) []api.Change {
	var list []api.Change
	for _, at := range times {
		list = append(list, api.Change{At: at})
	}
	return list
}

func wantAlarm(t *testing.T, a api.Alarm, want api.Errno) {
	t.Helper()
	err := event.Alarm(a)
	if plain.Told(err) != want || want == api.OK && err != nil {
		t.Errorf("Alarm(%+v): got %v, want %v", a, err, want)
	}
	e := once(66730170)
	e.Alarms = []api.Alarm{{}, a}
	wantCheck(t, e, want)
}

func wantCheck(t *testing.T, e api.Event, want api.Errno) {
	t.Helper()
	err := event.Check(e)
	if plain.Told(err) != want || want == api.OK && err != nil {
		t.Errorf("Check(%+v): got %v, want %v", e, err, want)
	}
}

// wantRefused asks Check for an error, and the other calls for the same, whatever times they are given.
func wantRefused(t *testing.T, e api.Event, want api.Errno) {
	t.Helper()
	wantCheck(t, e, want)
	for _, n := range []int{math.MinInt, -1, 0, 1, e.Start, 66730170, lastTime, lastTime + 1, math.MaxInt} {
		wantNone(t, e, n, n, want)
		wantNotMoved(t, e, n, want)
	}
	wantNone(t, e, 2, 1, want)
	wantNone(t, e, 1, lastTime, want)
}

// wantNone asks Local and Days for an error, and for nothing beside it.
func wantNone(t *testing.T, e api.Event, from, to int, want api.Errno) {
	t.Helper()
	if got, err := event.Local(e, from, to); len(got) != 0 || plain.Told(err) != want {
		t.Errorf("Local(%+v, %d, %d): got %v, %v, want none, %v", e, from, to, got, err, want)
	}
	if got, err := event.Days(e, from, to); len(got) != 0 || plain.Told(err) != want {
		t.Errorf("Days(%+v, %d, %d): got %v, %v, want none, %v", e, from, to, got, err, want)
	}
}

func wantNotMoved(t *testing.T, e api.Event, which int, want api.Errno) {
	t.Helper()
	if got, off, err := event.Moved(e, which); got != 0 || off || plain.Told(err) != want {
		t.Errorf("Moved(%+v, %d): got %d, %v, %v, want 0, false, %v", e, which, got, off, err, want)
	}
}

func TestErrorsByNumber(t *testing.T) {
	for want, told := range map[int]error{
		0: event.Check(once(1)),
		1: event.Check(once(0)),
		2: event.Check(api.Event{Start: 1}),
		3: event.Check(api.Event{Name: "a", Start: 1, Rule: api.Rule{Freq: 1}}),
		4: event.Check(api.Event{Name: "a", Start: 1, Alarms: make([]api.Alarm, 5)}),
		7: event.Check(api.Event{Name: "a", Start: 1, More: []int{2, 1}}),
	} {
		if int(plain.Told(told)) != want {
			t.Errorf("got %v, want the error %d", told, want)
		}
	}
	if _, _, err := event.Moved(once(1), 2); int(plain.Told(err)) != 5 {
		t.Errorf("got %v, want the error 5", err)
	}
}

func TestAlarmOffset(t *testing.T) {
	for _, end := range []bool{false, true} {
		for _, n := range []int{-100000, -99999, -10, -1, 0, 1, 30, 99999, 100000} {
			wantAlarm(t, api.Alarm{Offset: n, End: end}, api.OK)
			wantAlarm(t, api.Alarm{Offset: n, End: end, Repeat: 1, Between: 1}, api.OK)
		}
		for _, n := range notFrom(-100000, 100000) {
			wantAlarm(t, api.Alarm{Offset: n, End: end}, api.ErrRange)
			wantAlarm(t, api.Alarm{Offset: n, End: end, Repeat: 5, Between: 10000}, api.ErrRange)
		}
	}
}

func TestAlarmRepeat(t *testing.T) {
	for n := 1; n <= 5; n++ {
		wantAlarm(t, api.Alarm{Repeat: n, Between: 1}, api.OK)
	}
	for _, n := range notFrom(0, 5) {
		for _, between := range []int{0, 1, 10, 10000} {
			wantAlarm(t, api.Alarm{Repeat: n, Between: between}, api.ErrRange)
		}
	}
}

func TestAlarmBetween(t *testing.T) {
	for repeat := 1; repeat <= 5; repeat++ {
		for _, n := range []int{1, 2, 5, 9999, 10000} {
			wantAlarm(t, api.Alarm{Offset: -10, Repeat: repeat, Between: n}, api.OK)
		}
		for _, n := range notFrom(1, 10000) {
			wantAlarm(t, api.Alarm{Offset: -10, Repeat: repeat, Between: n}, api.ErrRange)
		}
	}
	// What does not ring again has nothing between.
	wantAlarm(t, api.Alarm{Offset: -10}, api.OK)
	for _, n := range append(notFrom(0, 0), 5, 9999, 10000, 10001) {
		wantAlarm(t, api.Alarm{Offset: -10, Between: n}, api.ErrRange)
		wantAlarm(t, api.Alarm{Offset: -10, End: true, Between: n}, api.ErrRange)
	}
}

func TestName(t *testing.T) {
	name := func(text string) api.Event { return api.Event{Name: text, Start: 66730170} }
	for _, text := range []string{"a", "z", "m", "az", "meet", "abcdefg", "abcdefgh", "zzzzzzzz", "aaaaaaaa"} {
		wantCheck(t, name(text), api.OK)
	}
	for c := 'a'; c <= 'z'; c++ {
		wantCheck(t, name(string(c)), api.OK)
		wantCheck(t, name("a"+string(c)+"a"), api.OK)
	}
	for _, text := range []string{
		"", "abcdefghi", "aaaaaaaaa", strings.Repeat("a", 255), strings.Repeat("a", 257), strings.Repeat("a", 100000),
		" ", " a", "a ", "a b", "a\n", "ä", "aä", "\u0430", "a\u0301", "ａ",
	} {
		wantRefused(t, name(text), api.ErrSyntax)
	}
	// Each byte that is no letter, alone and at each place.
	for b := range 256 {
		if b >= 'a' && b <= 'z' {
			continue
		}
		one := string([]byte{byte(b)})
		for _, text := range []string{one, one + "a", "a" + one, "abc" + one + "efgh", "abcdefg" + one} {
			wantCheck(t, name(text), api.ErrSyntax)
		}
	}
	for _, text := range []string{"`", "{", "A", "Z", "mEet", "meeT", "meet1", "a-b", "a_b", "\x00", "\xff"} {
		wantRefused(t, name(text), api.ErrSyntax)
	}
}

func TestText(t *testing.T) {
	text := func(s string) api.Event { return api.Event{Name: "a", Text: s, Start: 66730170} }
	for _, s := range []string{"", " ", "~", "x", "a;b,c\\", "Meeting (of all): 10%!", strings.Repeat(" ", 60), strings.Repeat("~", 60), strings.Repeat("t", 59), strings.Repeat("t", 60)} {
		wantCheck(t, text(s), api.OK)
	}
	for _, many := range []int{61, 62, 256, 316, 100000} {
		wantRefused(t, text(strings.Repeat("t", many)), api.ErrSyntax)
	}
	for b := range 256 {
		want := api.ErrSyntax
		if b >= 32 && b <= 126 {
			want = api.OK
		}
		one := string([]byte{byte(b)})
		for _, s := range []string{one, one + "t", "t" + one, "tt" + one + "tt", strings.Repeat("t", 59) + one} {
			wantCheck(t, text(s), want)
		}
	}
	for _, s := range []string{"\x1f", "\x7f", "\x80", "\xff", "\n", "\x00", "tä", "t\u00a0"} {
		wantRefused(t, text(s), api.ErrSyntax)
	}
	// Sixty bytes, not sixty signs.
	wantRefused(t, text(strings.Repeat("ä", 30)), api.ErrSyntax)
}

func TestStart(t *testing.T) {
	for _, n := range []int{1, 2, 1439, 1440, 66730170, lastTime - 1440, lastTime - 1, lastTime} {
		wantCheck(t, once(n), api.OK)
		wantCheck(t, repeated(t, n, "daily"), api.OK)
	}
	for _, n := range noTimes {
		wantRefused(t, once(n), api.ErrRange)
		wantRefused(t, repeated(t, n, "daily"), api.ErrRange)
	}
}

func TestLength(t *testing.T) {
	length := func(n int) api.Event { return api.Event{Name: "a", Start: 66730170, Length: n} }
	for _, n := range []int{0, 1, 90, 1440, 99999, 100000} {
		wantCheck(t, length(n), api.OK)
	}
	for _, n := range notFrom(0, 100000) {
		wantRefused(t, length(n), api.ErrRange)
	}
	// To, behind the last time, is not asked here.
	wantCheck(t, api.Event{Name: "a", Start: lastTime, Length: 100000}, api.OK)
}

// A rule of an event that does not repeat is empty, part by part.
func TestRuleOfWhatIsOnce(t *testing.T) {
	parts := []api.Rule{
		{Freq: 1}, {Freq: 4}, {Freq: -1}, {Freq: math.MinInt}, {Every: 1}, {Every: -1}, {Every: math.MaxInt}, {Count: 1}, {Count: -1}, {Until: 1}, {Until: -1},
		{Months: []int{0}}, {Months: []int{1}}, {Days: []int{0}}, {Days: []int{-1}}, {Weeks: []api.Nth{{}}}, {Weeks: []api.Nth{{Weekday: 1}}}, {Pick: []int{0}}, {Pick: []int{1}},
		{Freq: api.Daily, Every: 1}, {Months: make([]int, 13)}, {Count: 1, Until: 1},
	}
	for _, r := range parts {
		e := once(66730170)
		e.Rule = r
		wantRefused(t, e, api.ErrShape)
	}
	e := once(66730170)
	e.Rule = api.Rule{Months: []int{}, Days: []int{}, Weeks: []api.Nth{}, Pick: []int{}}
	wantCheck(t, e, api.OK)
}

func TestRuleOfWhatRepeats(t *testing.T) {
	for _, text := range []string{"daily", "weekly every 2 on mo,we", "monthly count 200 on -1fr", "yearly until 2199-12-31 months 2 days 29", "monthly months 1,2,3 days 1,2,3 on mo,tu pick -1"} {
		wantCheck(t, repeated(t, 66730170, text), api.OK)
	}
	cases := map[api.Errno][]api.Rule{
		api.ErrRange: {{}, {Freq: 5, Every: 1}, {Freq: 1}, {Freq: 1, Every: 51}, {Freq: 1, Every: 1, Count: 201}, {Freq: 1, Every: 1, Until: lastDay + 1}, {Freq: 1, Every: 1, Months: []int{13}}, {Freq: math.MinInt, Every: math.MaxInt}},
		api.ErrShape: {{Freq: 1, Every: 1, Count: 1, Until: 1}, {Freq: 2, Every: 1, Days: []int{1}}, {Freq: 1, Every: 1, Pick: []int{1}}},
		api.ErrFull:  {{Freq: 1, Every: 1, Months: make([]int, 13)}, {Freq: 1, Every: 1, Weeks: make([]api.Nth, 21)}},
		api.ErrClash: {{Freq: 1, Every: 1, Months: []int{2, 1}}, {Freq: 1, Every: 1, Days: []int{1, 1}}},
	}
	for want, rules := range cases {
		for _, r := range rules {
			wantRefused(t, api.Event{Name: "a", Start: 66730170, Repeats: true, Rule: r}, want)
		}
	}
}

// lists are the three of times: each fills one of an event.
var lists = []func(e *api.Event, times []int){
	func(e *api.Event, times []int) { e.More = times },
	func(e *api.Event, times []int) { e.Not = times },
	func(e *api.Event, times []int) { e.Changes = changesAt(times...) },
}

func TestHowManyTimes(t *testing.T) {
	for _, fill := range lists {
		for _, e := range []api.Event{once(66730170), repeated(t, 66730170, "daily")} {
			for _, many := range []int{0, 1, 99, 100} {
				fill(&e, rising(1, 1, many))
				wantCheck(t, e, api.OK)
				fill(&e, rising(lastTime-(many-1)*1440, 1440, many))
				wantCheck(t, e, api.OK)
			}
			for _, many := range []int{101, 102, 200, 5000} {
				fill(&e, rising(1, 1, many))
				wantRefused(t, e, api.ErrFull)
			}
		}
	}
	// Each list is counted by itself.
	e := once(66730170)
	for _, fill := range lists {
		fill(&e, rising(1, 1, 100))
	}
	e.Alarms = make([]api.Alarm, 4)
	wantCheck(t, e, api.OK)
}

func TestHowManyAlarms(t *testing.T) {
	for many := range 5 {
		wantCheck(t, api.Event{Name: "a", Start: 1, Alarms: make([]api.Alarm, many)}, api.OK)
	}
	for _, many := range []int{5, 6, 100, 5000} {
		wantRefused(t, api.Event{Name: "a", Start: 1, Alarms: make([]api.Alarm, many)}, api.ErrFull)
	}
}

func TestListedTimes(t *testing.T) {
	for _, fill := range lists {
		good := [][]int{{1}, {lastTime}, {1, lastTime}, {1, 2}, {1, 2, 3}, {lastTime - 1, lastTime}, {66730170}, rising(1, 1, 100)}
		for _, times := range good {
			e := once(66730170)
			fill(&e, times)
			wantCheck(t, e, api.OK)
		}
		for _, n := range noTimes {
			for _, times := range [][]int{{n}, {1, n}, {n, lastTime}, {1, n, lastTime}, {1, 2, 3, n}, append(rising(1, 1, 99), n)} {
				e := once(66730170)
				fill(&e, times)
				wantRefused(t, e, api.ErrRange)
			}
		}
		falling := [][]int{{1, 1}, {2, 1}, {lastTime, 1}, {1, 3, 2}, {2, 1, 3}, {1, 2, 2}, {1, 1, 2}, {66730170, 66730170, 66730170}, append(rising(1, 1, 99), 99), append(rising(1, 1, 99), 98)}
		for _, times := range falling {
			e := once(66730170)
			fill(&e, times)
			wantRefused(t, e, api.ErrClash)
		}
	}
}

func TestChangesTo(t *testing.T) {
	change := func(list ...api.Change) api.Event { return api.Event{Name: "a", Start: 1, Changes: list} }
	for _, to := range []int{0, 1, 2, 66730170, lastTime - 1, lastTime} {
		wantCheck(t, change(api.Change{At: 1, To: to}), api.OK)
		wantCheck(t, change(api.Change{At: 1}, api.Change{At: lastTime, To: to}), api.OK)
	}
	for _, to := range noTimes {
		if to == 0 {
			continue
		}
		wantRefused(t, change(api.Change{At: 1, To: to}), api.ErrRange)
		wantRefused(t, change(api.Change{At: 1}, api.Change{At: lastTime, To: to}), api.ErrRange)
		wantRefused(t, change(api.Change{At: 1, To: to}, api.Change{At: lastTime}), api.ErrRange)
	}
	// To does not rise, nor need it be another one.
	wantCheck(t, change(api.Change{At: 1, To: 9}, api.Change{At: 2, To: 9}, api.Change{At: 3, To: 5}, api.Change{At: 4, To: 4}), api.OK)
	wantRefused(t, change(api.Change{At: 1, To: 8}, api.Change{At: 1, To: 9}), api.ErrClash)
}
