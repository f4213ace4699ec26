package log

import (
	"math"
	"reflect"
	"strings"
	"testing"

	"chimework/api"
)

// asksWhole have all that what they ask for may have.
func asksWhole() []api.Ask {
	ring := api.Ring{At: 66729600, Name: "meet", Which: 66729610, Alarm: 3, Turn: 5}
	everything := api.Event{
		Name: "meet", Text: `a\n;,: "~`, Start: 1, Length: 100000, Repeats: true,
		Rule:    api.Rule{Freq: api.Yearly, Every: 50, Until: 109573, Months: []int{1, 12}, Days: []int{-31, 31}, Weeks: []api.Nth{{N: -5, Weekday: 1}, {N: 0, Weekday: 7}}, Pick: []int{-31, 1}},
		More:    []int{1, 157785119},
		Not:     []int{1, 157785119},
		Changes: []api.Change{{At: 1}, {At: 2, To: 1}, {At: 157785119, To: 157785119}},
		Alarms:  []api.Alarm{{Offset: -100000}, {Offset: 100000, End: true, Repeat: 5, Between: 10000}, {}, {Repeat: 1, Between: 1}},
	}
	counted := api.Event{Name: "a", Text: " " + strings.Repeat(" \\", 29), Start: 157785119, Repeats: true, Rule: api.Rule{Freq: api.Daily, Every: 1, Count: 200}}
	return []api.Ask{
		{What: api.Put, Event: everything}, {What: api.Put, Event: counted}, {What: api.Put, Event: api.Event{Name: "a", Start: 1}},
		{What: api.Put, Event: api.Event{Name: "zzzzzzzz", Text: " ", Start: 2, More: []int{5}}},
		{What: api.Drop, Name: "a"}, {What: api.Drop, Name: "zzzzzzzz"},
		{What: api.Tick, N: 1}, {What: api.Tick, N: 157785119},
		{What: api.Done, Ring: ring}, {What: api.Done, Ring: api.Ring{At: 1, Name: "a", Which: 157785119}},
		{What: api.Snooze, Ring: ring, N: 1}, {What: api.Snooze, Ring: ring, N: 10000},
	}
}

// An ask is read as it was written, and its record ends just at its end.
func TestReadAsWritten(t *testing.T) {
	for _, a := range asksWhole() {
		record := recordOf(a)
		text, isWhole := strings.CutSuffix(record, recordEnd)
		if !isWhole || strings.Contains(text, recordEnd) {
			t.Errorf("%+v: the record %q does not end at its end", a, record)
		}
		if got := askOf(text); !reflect.DeepEqual(got, a) {
			t.Errorf("got %+v, want %+v", got, a)
		}
	}
}

// What its What does not look at is not written.
func TestWrittenIsWhatIsAsked(t *testing.T) {
	for _, a := range asksWhole() {
		crowd := a
		if a.What != api.Put {
			crowd.Event = api.Event{Name: recordEnd, Text: strings.Repeat("x", 1000), More: make([]int, 1000)}
		}
		if a.What != api.Drop {
			crowd.Name = recordEnd
		}
		if a.What != api.Done && a.What != api.Snooze {
			crowd.Ring = api.Ring{At: -1, Name: recordEnd, Which: -1, Alarm: math.MinInt, Turn: math.MaxInt}
		}
		if a.What != api.Tick && a.What != api.Snooze {
			crowd.N = -1
		}
		if got, want := recordOf(crowd), recordOf(a); got != want {
			t.Errorf("%+v: got %q, want %q", crowd, got, want)
		}
	}
}

// Where a record is cut off, it is none, and those ahead of it are.
func TestEndOfWhole(t *testing.T) {
	kept := ""
	for _, a := range asksWhole() {
		record := recordOf(a)
		for cut := range len(record) {
			if got := endOfWhole([]byte(kept + record[:cut])); got != len(kept) {
				t.Fatalf("%q cut off at %d: got %d, want %d", record, cut, got, len(kept))
			}
		}
		kept += record
		if got := endOfWhole([]byte(kept)); got != len(kept) {
			t.Fatalf("%q: got %d, want %d", record, got, len(kept))
		}
	}
}
