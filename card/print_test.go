package card_test

import (
	"math"
	"reflect"
	"slices"
	"strings"
	"testing"

	"chimework/api"
	"chimework/card"
	"chimework/plain"
)

// Times are written out, so that they are held against numbers that the program did not work out.
const (
	lastTime = 157785119
	monday   = 66730170 // 2026-11-16 09:30
	tuesday  = 66731610 // 2026-11-17 09:30
	thursday = 66734490 // 2026-11-19 09:30
)

// P3's numbers, written out.
var errorNumbers = map[api.Errno]int{api.OK: 0, api.ErrRange: 1, api.ErrSyntax: 2, api.ErrShape: 3, api.ErrFull: 4, api.ErrClash: 7}

func isTold(err error, want api.Errno) bool {
	told := plain.Told(err)
	return told == want && int(told) == errorNumbers[want] && (err == nil) == (want == api.OK)
}

// nilled makes empty lists nil, for both are the same.
func nilled(e api.Event) api.Event {
	e.Rule.Months, e.Rule.Days, e.Rule.Weeks, e.Rule.Pick = orNil(e.Rule.Months), orNil(e.Rule.Days), orNil(e.Rule.Weeks), orNil(e.Rule.Pick)
	e.More, e.Not, e.Changes, e.Alarms = orNil(e.More), orNil(e.Not), orNil(e.Changes), orNil(e.Alarms)
	return e
}

func orNil[T any](list []T) []T {
	if len(list) == 0 {
		return nil
	}
	return list
}

func same(a, b api.Event) bool { return reflect.DeepEqual(nilled(a), nilled(b)) }

func wantRead(t *testing.T, text string, want api.Event) {
	t.Helper()
	if got, n, err := card.Parse(text); !same(got, want) || n != 0 || err != nil {
		t.Errorf("Parse(%q): got %+v, %d, %v, want %+v", text, got, n, err, want)
	}
}

// wantCard asks for both ways.
func wantCard(t *testing.T, e api.Event, lines ...string) {
	t.Helper()
	want := strings.Join(lines, "\n") + "\n"
	if got, err := card.Print(e); got != want || err != nil {
		t.Errorf("Print(%+v): got %q, %v, want %q", e, got, err, want)
	}
	wantRead(t, want, e)
}

func wantNoCard(t *testing.T, e api.Event, want api.Errno) {
	t.Helper()
	if got, err := card.Print(e); got != "" || !isTold(err, want) {
		t.Errorf("Print(%+v): got %q, %v, want none, %v", e, got, err, want)
	}
}

// meet is an event that has but what it must.
func meet() api.Event { return api.Event{Name: "meet", Start: monday, Length: 60} }

// crowded has two and more of whatever there may be several of.
func crowded() api.Event {
	return api.Event{
		Name: "meet", Text: `bread, milk; and a \`, Start: monday, Length: 90,
		Repeats: true, Rule: api.Rule{Freq: api.Weekly, Every: 2, Count: 4, Weeks: []api.Nth{{Weekday: 1}, {Weekday: 4}}},
		More:    []int{66731640, 66731641},
		Not:     []int{tuesday, thursday, lastTime},
		Changes: []api.Change{{At: 1}, {At: 66740250, To: 66731640}, {At: lastTime, To: 1}},
		Alarms:  []api.Alarm{{Offset: -10}, {Offset: 5, End: true, Repeat: 1, Between: 15}, {Repeat: 5, Between: 10000}, {Offset: 100000, End: true}},
	}
}

var crowdedLines = []string{
	"NAME:meet",
	`TEXT:bread\, milk\; and a \\`,
	"START:2026-11-16 09:30",
	"LENGTH:1h30m",
	"RULE:weekly every 2 count 4 on mo,th",
	"MORE:2026-11-17 10:00",
	"MORE:2026-11-17 10:01",
	"NOT:2026-11-17 09:30",
	"NOT:2026-11-19 09:30",
	"NOT:2199-12-31 23:59",
	"MOVE:1900-01-01 00:01>-",
	"MOVE:2026-11-23 09:30>2026-11-17 10:00",
	"MOVE:2199-12-31 23:59>1900-01-01 00:01",
	"ALARM:-10m s 0 0m",
	"ALARM:5m e 1 15m",
	"ALARM:0m s 5 6d22h40m",
	"ALARM:69d10h40m e 0 0m",
}

func TestCards(t *testing.T) {
	wantCard(t, meet(), "NAME:meet", "START:2026-11-16 09:30", "LENGTH:1h")
	wantCard(t, api.Event{Name: "a", Start: 1}, "NAME:a", "START:1900-01-01 00:01", "LENGTH:0m")
	wantCard(t, api.Event{Name: "zzzzzzzz", Start: lastTime, Length: 100000}, "NAME:zzzzzzzz", "START:2199-12-31 23:59", "LENGTH:69d10h40m")
	wantCard(t, crowded(), crowdedLines...)
}

// Each thing that an event may have or not, by itself: where its line stands, and what it says.
func TestOneThingMore(t *testing.T) {
	for _, row := range []struct {
		add   func(e *api.Event)
		ahead bool // of START
		lines []string
	}{
		{func(e *api.Event) { e.Text = "x" }, true, []string{"TEXT:x"}},
		{func(e *api.Event) { e.Text = " " }, true, []string{"TEXT: "}},
		{func(e *api.Event) { e.Text = "NAME:x" }, true, []string{"TEXT:NAME:x"}},
		{func(e *api.Event) { e.Text = `\n;:,` }, true, []string{`TEXT:\\n\;:\,`}},
		{func(e *api.Event) { e.Repeats, e.Rule = true, api.Rule{Freq: api.Daily, Every: 1} }, false, []string{"RULE:daily"}},
		{func(e *api.Event) { e.Repeats, e.Rule = true, api.Rule{Freq: api.Yearly, Every: 50, Until: 46341} }, false, []string{"RULE:yearly every 50 until 2026-11-16"}},
		{func(e *api.Event) { e.More = []int{1} }, false, []string{"MORE:1900-01-01 00:01"}},
		{func(e *api.Event) { e.More = []int{monday, tuesday} }, false, []string{"MORE:2026-11-16 09:30", "MORE:2026-11-17 09:30"}},
		{func(e *api.Event) { e.Not = []int{lastTime} }, false, []string{"NOT:2199-12-31 23:59"}},
		{func(e *api.Event) { e.Not = []int{monday, tuesday} }, false, []string{"NOT:2026-11-16 09:30", "NOT:2026-11-17 09:30"}},
		{func(e *api.Event) { e.Changes = []api.Change{{At: monday}} }, false, []string{"MOVE:2026-11-16 09:30>-"}},
		{func(e *api.Event) { e.Changes = []api.Change{{At: monday, To: monday}} }, false, []string{"MOVE:2026-11-16 09:30>2026-11-16 09:30"}},
		{func(e *api.Event) { e.Changes = []api.Change{{At: monday, To: 1}, {At: tuesday}} }, false, []string{"MOVE:2026-11-16 09:30>1900-01-01 00:01", "MOVE:2026-11-17 09:30>-"}},
		{func(e *api.Event) { e.Alarms = []api.Alarm{{}} }, false, []string{"ALARM:0m s 0 0m"}},
		{func(e *api.Event) { e.Alarms = []api.Alarm{{End: true}} }, false, []string{"ALARM:0m e 0 0m"}},
		{func(e *api.Event) { e.Alarms = []api.Alarm{{Offset: -100000}} }, false, []string{"ALARM:-69d10h40m s 0 0m"}},
		{func(e *api.Event) { e.Alarms = []api.Alarm{{Offset: 61, End: true, Repeat: 2, Between: 1}} }, false, []string{"ALARM:1h1m e 2 1m"}},
		{func(e *api.Event) { e.Alarms = []api.Alarm{{Repeat: 1, Between: 60}, {Repeat: 1, Between: 60}} }, false, []string{"ALARM:0m s 1 1h", "ALARM:0m s 1 1h"}},
		{func(e *api.Event) { e.Alarms = []api.Alarm{{Offset: 2}, {Offset: -2}, {Offset: 1}} }, false, []string{"ALARM:2m s 0 0m", "ALARM:-2m s 0 0m", "ALARM:1m s 0 0m"}},
	} {
		e := meet()
		row.add(&e)
		lines := slices.Concat([]string{"NAME:meet", "START:2026-11-16 09:30", "LENGTH:1h"}, row.lines)
		if row.ahead {
			lines = slices.Concat([]string{"NAME:meet"}, row.lines, []string{"START:2026-11-16 09:30", "LENGTH:1h"})
		}
		wantCard(t, e, lines...)
	}
}

// As many as there may be of each.
func TestFullLists(t *testing.T) {
	e := meet()
	lines := []string{"NAME:meet", "START:2026-11-16 09:30", "LENGTH:1h"}
	const digits = "0123456789"
	for _, key := range []string{"MORE:", "NOT:", "MOVE:"} {
		for minute := range 100 {
			value := "1900-01-02 0" + digits[minute/60:][:1] + ":" + digits[minute%60/10:][:1] + digits[minute%10:][:1]
			if key == "MOVE:" {
				value += ">2026-11-16 09:30"
			}
			lines = append(lines, key+value)
		}
	}
	for minute := range 100 {
		e.More = append(e.More, 1440+minute)
		e.Not = append(e.Not, 1440+minute)
		e.Changes = append(e.Changes, api.Change{At: 1440 + minute, To: monday})
	}
	e.Alarms = make([]api.Alarm, 4)
	lines = append(lines, "ALARM:0m s 0 0m", "ALARM:0m s 0 0m", "ALARM:0m s 0 0m", "ALARM:0m s 0 0m")
	wantCard(t, e, lines...)
}

// counted makes a text of so many bytes, neighbours differing.
func counted(many int) string {
	const letters = "abcdefghijklmnopqrstuvwxyz0123456789"
	return strings.Repeat(letters, many/len(letters)+1)[:many]
}

// Whole lines at the edges of what one piece, and two, can hold.
func TestFoldedText(t *testing.T) {
	c := counted(60)
	m := strings.Repeat(",", 60)
	for _, row := range []struct {
		text   string
		pieces []string
	}{
		{c[:34], []string{"TEXT:" + c[:34]}},
		{c[:35], []string{"TEXT:" + c[:35]}},
		{c[:36], []string{"TEXT:" + c[:35], " " + c[35:36]}},
		{c[:60], []string{"TEXT:" + c[:35], " " + c[35:60]}},
		{c[:35] + m[:1], []string{"TEXT:" + c[:35], ` \,`}},
		{c[:34] + m[:1], []string{"TEXT:" + c[:34] + `\`, " ,"}},
		{c[:34] + `\`, []string{"TEXT:" + c[:34] + `\`, ` \`}},
		{c[:33] + m[:1], []string{"TEXT:" + c[:33] + `\,`}},
		{c[:35] + "  x", []string{"TEXT:" + c[:35], "   x"}},
		{c[:35] + " ", []string{"TEXT:" + c[:35], "  "}},
		{c[:34] + " ", []string{"TEXT:" + c[:34] + " "}},
		// 79, 80 and 81 bytes
		{c[:46] + m[:14], []string{"TEXT:" + c[:35], " " + c[35:46] + strings.Repeat(`\,`, 14)}},
		{c[:45] + m[:15], []string{"TEXT:" + c[:35], " " + c[35:45] + strings.Repeat(`\,`, 14) + `\`, " ,"}},
		{c[:44] + m[:16], []string{"TEXT:" + c[:35], " " + c[35:44] + strings.Repeat(`\,`, 15), ` \,`}},
		// the longest one
		{m, []string{"TEXT:" + strings.Repeat(`\,`, 17) + `\`, " ," + strings.Repeat(`\,`, 19), " " + strings.Repeat(`\,`, 19) + `\`, " ," + strings.Repeat(`\,`, 3)}},
	} {
		e := meet()
		e.Text = row.text
		wantCard(t, e, slices.Concat([]string{"NAME:meet"}, row.pieces, []string{"START:2026-11-16 09:30", "LENGTH:1h"})...)
	}
}

func TestFoldedRule(t *testing.T) {
	for _, row := range []struct {
		rule   api.Rule
		pieces []string
	}{
		{api.Rule{Freq: api.Monthly, Every: 2, Count: 10, Months: []int{1, 2, 3}}, []string{"RULE:monthly every 2 count 10 months 1,2", " ,3"}},
		{api.Rule{Freq: api.Monthly, Every: 2, Count: 10, Months: []int{1, 12}}, []string{"RULE:monthly every 2 count 10 months 1,1", " 2"}},
		{api.Rule{Freq: api.Monthly, Every: 2, Count: 10, Months: []int{1, 2}}, []string{"RULE:monthly every 2 count 10 months 1,2"}},
		{api.Rule{Freq: api.Monthly, Every: 2, Count: 10, Months: []int{12}}, []string{"RULE:monthly every 2 count 10 months 12"}},
		{api.Rule{Freq: api.Daily, Every: 2, Until: 46697, Days: []int{3, 29}}, []string{"RULE:daily every 2 until 2027-11-07 days", "  3,29"}},
		{
			api.Rule{Freq: api.Yearly, Every: 50, Until: 109573, Months: []int{1, 2, 3, 4, 5, 6, 7, 8, 9, 10, 11, 12}, Days: []int{-31, 31}, Weeks: []api.Nth{{N: -5, Weekday: 7}, {N: 5, Weekday: 7}}, Pick: []int{-1, 1}},
			[]string{"RULE:yearly every 50 until 2199-12-31 mo", " nths 1,2,3,4,5,6,7,8,9,10,11,12 days -3", " 1,31 on -5su,5su pick -1,1"},
		},
	} {
		e := meet()
		e.Repeats, e.Rule = true, row.rule
		wantCard(t, e, slices.Concat([]string{"NAME:meet", "START:2026-11-16 09:30", "LENGTH:1h"}, row.pieces)...)
	}
}

func TestPrintWrong(t *testing.T) {
	wantNoCard(t, api.Event{}, api.ErrSyntax)
	for _, row := range []struct {
		spoil func(e *api.Event)
		told  api.Errno
	}{
		{func(e *api.Event) { e.Name = "" }, api.ErrSyntax},
		{func(e *api.Event) { e.Name = "abcdefghi" }, api.ErrSyntax},
		{func(e *api.Event) { e.Name = "Meet" }, api.ErrSyntax},
		{func(e *api.Event) { e.Name = "a\n" }, api.ErrSyntax},
		{func(e *api.Event) { e.Text = strings.Repeat("t", 61) }, api.ErrSyntax},
		{func(e *api.Event) { e.Text = "a\nb" }, api.ErrSyntax},
		{func(e *api.Event) { e.Text = "\x7f" }, api.ErrSyntax},
		{func(e *api.Event) { e.Start = 0 }, api.ErrRange},
		{func(e *api.Event) { e.Start = lastTime + 1 }, api.ErrRange},
		{func(e *api.Event) { e.Length = -1 }, api.ErrRange},
		{func(e *api.Event) { e.Length = 100001 }, api.ErrRange},
		{func(e *api.Event) { e.Length = math.MinInt }, api.ErrRange},
		{func(e *api.Event) { e.Repeats = false }, api.ErrShape},
		{func(e *api.Event) { e.Rule.Every = 51 }, api.ErrRange},
		{func(e *api.Event) { e.Rule.Until = 1 }, api.ErrShape},
		{func(e *api.Event) { e.Rule.Pick = make([]int, 21) }, api.ErrFull},
		{func(e *api.Event) { e.Rule.Weeks = []api.Nth{{Weekday: 2}, {Weekday: 1}} }, api.ErrClash},
		{func(e *api.Event) { e.More = make([]int, 101) }, api.ErrFull},
		{func(e *api.Event) { e.Alarms = make([]api.Alarm, 5) }, api.ErrFull},
		{func(e *api.Event) { e.Not = []int{1, 0} }, api.ErrRange},
		{func(e *api.Event) { e.Changes = []api.Change{{To: 1}} }, api.ErrRange},
		{func(e *api.Event) { e.Changes = []api.Change{{At: 1, To: -1}} }, api.ErrRange},
		{func(e *api.Event) { e.Changes = []api.Change{{At: 2}, {At: 2, To: 1}} }, api.ErrClash},
		{func(e *api.Event) { e.More = []int{2, 1} }, api.ErrClash},
		{func(e *api.Event) { e.Alarms[3].Offset = 100001 }, api.ErrRange},
		{func(e *api.Event) { e.Alarms[2].Repeat = math.MaxInt }, api.ErrRange},
		{func(e *api.Event) { e.Alarms[0].Between = 1 }, api.ErrRange},
		// of several the one that chapter 8 names first
		{func(e *api.Event) { e.Name, e.Start, e.More = "", 0, make([]int, 101) }, api.ErrSyntax},
		{func(e *api.Event) { e.Rule.Every, e.More = 0, make([]int, 101) }, api.ErrRange},
		{func(e *api.Event) { e.Alarms[0].Between, e.More = 1, []int{2, 1} }, api.ErrClash},
	} {
		e := crowded()
		row.spoil(&e)
		wantNoCard(t, e, row.told)
	}
}

// spare copies a list, with things behind its length that are no matter of the call.
func spare[T any](list []T, behind T) []T {
	return append(slices.Clone(list), behind, behind, behind)[:len(list)]
}

// laden makes an event all of whose lists have things behind their length.
func laden() api.Event {
	e := crowded()
	e.Rule = api.Rule{
		Freq: api.Monthly, Every: 1,
		Months: spare([]int{1, 12}, 13), Days: spare([]int{-1, 1}, 0), Weeks: spare([]api.Nth{{N: 1, Weekday: 1}}, api.Nth{N: 9, Weekday: 9}), Pick: spare([]int{1}, 32),
	}
	e.More, e.Not = spare(e.More, 1), spare(e.Not, -1)
	e.Changes = spare(e.Changes, api.Change{At: 5, To: -1})
	e.Alarms = spare(e.Alarms, api.Alarm{Repeat: 9})
	return e
}

// whole copies an event, and what lies behind the length of its lists.
func whole(e api.Event) api.Event {
	e.Rule.Months, e.Rule.Days = all(e.Rule.Months), all(e.Rule.Days)
	e.Rule.Weeks, e.Rule.Pick = all(e.Rule.Weeks), all(e.Rule.Pick)
	e.More, e.Not, e.Changes, e.Alarms = all(e.More), all(e.Not), all(e.Changes), all(e.Alarms)
	return e
}

func all[T any](list []T) []T { return slices.Clone(list[:cap(list)]) }

func TestEventStaysAsItWas(t *testing.T) {
	e := laden()
	before := whole(e)
	first, err := card.Print(e)
	if err != nil {
		t.Fatalf("Print: got %v", err)
	}
	if !reflect.DeepEqual(whole(e), before) {
		t.Errorf("Print has changed the event: got %+v, want %+v", whole(e), before)
	}
	lines := slices.Clone(crowdedLines)
	lines[4] = "RULE:monthly months 1,12 days -1,1 on 1m\n o pick 1"
	if want := strings.Join(lines, "\n") + "\n"; first != want {
		t.Errorf("Print: got %q, want %q", first, want)
	}
	if again, _ := card.Print(e); again != first {
		t.Errorf("Print again: got %q, want %q", again, first)
	}
	e.Alarms[0].Repeat = 9
	before = whole(e)
	wantNoCard(t, e, api.ErrRange)
	if !reflect.DeepEqual(whole(e), before) {
		t.Errorf("Print has changed the event that it refuses: got %+v, want %+v", whole(e), before)
	}
}

// Nothing of the event is kept: what was told stays, whatever becomes of the event.
func TestTextIsItsOwn(t *testing.T) {
	e := crowded()
	text, _ := card.Print(e)
	e.More[0], e.Not[0], e.Changes[0].At, e.Alarms[0].Offset, e.Rule.Weeks[0].Weekday = 5, 5, 5, 5, 3
	if want := strings.Join(crowdedLines, "\n") + "\n"; text != want {
		t.Errorf("got %q, want %q", text, want)
	}
}
