package desk_test

import (
	"slices"
	"strings"
	"testing"

	"chimework/api"
	"chimework/desk"
)

// namesOf so many events, rising.
func namesOf(many int) []string {
	var names []string
	for i := range many {
		names = append(names, "e"+string(rune('a'+i)))
	}
	return names
}

// fullDesk has as many events as may be: each rings at begin+10.
func fullDesk(t *testing.T) *desk.Desk {
	t.Helper()
	d := made(t)
	names := namesOf(mostEvents)
	slices.Reverse(names)
	for _, name := range names {
		wantDone(t, d, put(once(name, begin+10, 0, api.Alarm{})))
	}
	wantNames(t, d, strings.Join(namesOf(mostEvents), " "))
	return d
}

func TestNamesRise(t *testing.T) {
	d := made(t)
	for _, c := range []struct{ name, want string }{
		{"b", "b"}, {"zzzzzzzz", "b zzzzzzzz"}, {"a", "a b zzzzzzzz"}, {"ba", "a b ba zzzzzzzz"}, {"aa", "a aa b ba zzzzzzzz"}, {"b", "a aa b ba zzzzzzzz"},
	} {
		wantDone(t, d, put(once(c.name, begin, 0)))
		wantNames(t, d, c.want)
	}
	for _, c := range []struct{ name, want string }{{"b", "a aa ba zzzzzzzz"}, {"zzzzzzzz", "a aa ba"}, {"a", "aa ba"}, {"ba", "aa"}, {"aa", ""}} {
		wantDone(t, d, drop(c.name))
		wantNames(t, d, c.want)
		wantRefused(t, d, drop(c.name), api.ErrNone)
	}
}

// As many events as may be, one more, and one of a name that is there.
func TestHowManyEvents(t *testing.T) {
	d := fullDesk(t)
	for _, name := range []string{"a", "eaa", "zz"} {
		wantRefused(t, d, put(once(name, begin, 0)), api.ErrFull)
	}
	for _, name := range namesOf(mostEvents) {
		wantDone(t, d, put(once(name, begin+20, 0, api.Alarm{})))
	}
	wantDone(t, d, tick(begin))
	var want []api.Ring
	for _, name := range namesOf(mostEvents) {
		want = append(want, bell(name, begin+20))
	}
	wantDone(t, d, tick(begin+30), want...)
	wantRefused(t, d, put(once("a", begin, 0)), api.ErrFull)
	wantDone(t, d, drop("ee"))
	wantDone(t, d, put(once("a", begin, 0)))
	wantRefused(t, d, put(once("ee", begin, 0)), api.ErrFull)
	wantRefused(t, d, put(once("b", begin, 0)), api.ErrFull)
	wantDone(t, d, put(once("a", begin, 0)))
	wantNames(t, d, "a "+strings.Join(slices.DeleteFunc(namesOf(mostEvents), func(n string) bool { return n == "ee" }), " "))
}

// One more takes no room, whatever is put in its place and how often.
func TestPutAgainAndAgain(t *testing.T) {
	d := made(t)
	for i := range 3 * mostEvents {
		wantDone(t, d, put(once("a", begin+i, 0, api.Alarm{})))
		wantNames(t, d, "a")
	}
	for i := range 3 * mostEvents {
		wantDone(t, d, put(once("b", begin+i, 0)))
		wantDone(t, d, drop("b"))
	}
	wantDone(t, d, tick(begin))
	wantDone(t, d, tick(begin+3*mostEvents), bell("a", begin+3*mostEvents-1))
}

// wrongEvents by the error that each of them has.
func wrongEvents(t *testing.T) map[api.Errno][]api.Event {
	t.Helper()
	every, months := repeated(t, "a", begin, 0, "daily"), repeated(t, "a", begin, 0, "daily")
	every.Rule.Every = 51
	months.Rule.Months = []int{2, 1}
	weekly := repeated(t, "a", begin, 0, "weekly")
	weekly.Rule.Days = []int{1}
	return map[api.Errno][]api.Event{
		api.ErrSyntax: {{}, once("", begin, 0), once("A", begin, 0), once("aaaaaaaaa", begin, 0), once("a b", begin, 0), {Name: "a", Text: "\n", Start: begin}, {Name: "a", Text: strings.Repeat("t", 61), Start: begin}},
		api.ErrRange: {
			once("a", 0, 0), once("a", lastTime+1, 0), once("a", begin, -1), once("a", begin, 100001), every,
			{Name: "a", Start: begin, More: []int{0}}, {Name: "a", Start: begin, Changes: []api.Change{{At: begin, To: -1}}},
			once("a", begin, 0, api.Alarm{Offset: 100001}), once("a", begin, 0, api.Alarm{}, api.Alarm{Repeat: 6, Between: 1}), once("a", begin, 0, api.Alarm{Between: 1}),
		},
		api.ErrShape: {{Name: "a", Start: begin, Rule: api.Rule{Freq: api.Daily, Every: 1}}, weekly},
		api.ErrFull:  {{Name: "a", Start: begin, More: make([]int, 101)}, once("a", begin, 0, make([]api.Alarm, 5)...)},
		api.ErrClash: {{Name: "a", Start: begin, Not: []int{2, 2}}, months},
	}
}

// What is wrong with an event is told, and nothing is put, nor taken out: of a full desk, too, where the name is there and where it is not.
func TestWrongEvents(t *testing.T) {
	for told, events := range wrongEvents(t) {
		for _, e := range events {
			empty, full := made(t), fullDesk(t)
			wantRefused(t, empty, put(e), told)
			wantRefused(t, full, put(e), told)
			one := running(t, begin, once("a", begin+1, 0, api.Alarm{}), once("b", begin+1, 0, api.Alarm{}), once("c", begin+9, 0, api.Alarm{}))
			wantDone(t, one, tick(begin+1), bell("a", begin+1), bell("b", begin+1))
			wantDone(t, one, snooze(bell("a", begin+1), 5))
			wantRefused(t, one, put(e), told)
			wantDone(t, one, tick(begin+10), moved(bell("a", begin+1), begin+6), bell("c", begin+9))
			wantRung(t, one, bell("b", begin+1), moved(bell("a", begin+1), begin+6), bell("c", begin+9))
			if e.Name != "a" {
				continue
			}
			e.Name = "ea"
			wantRefused(t, full, put(e), told)
			e.Name = "z"
			wantRefused(t, full, put(e), told)
		}
	}
}

// threeRungs makes a desk with events a, aa and b, each of which has two rings that have rung and two that are snoozed.
func threeRungs(t *testing.T) *desk.Desk {
	t.Helper()
	four := []api.Alarm{{}, {Offset: 1}, {Offset: 2}, {Offset: 3}}
	d := running(t, begin, once("a", begin+1, 0, four...), once("aa", begin+1, 0, four...), once("b", begin+1, 0, four...))
	if got, err := d.Do(tick(begin + 4)); len(got) != 12 || err != nil {
		t.Fatalf("got %v, %v", got, err)
	}
	for _, r := range d.Rung() {
		if r.Alarm%2 == 1 {
			wantDone(t, d, snooze(r, r.Alarm))
		}
	}
	return d
}

// kept tells which rings are not of a name.
func kept(rings []api.Ring, name string) []api.Ring {
	return slices.DeleteFunc(slices.Clone(rings), func(r api.Ring) bool { return r.Name == name })
}

// With an event that is dropped, or in whose place another one is put, its rings of both kinds are gone; those of others stay.
func TestRingsAreGone(t *testing.T) {
	for _, name := range []string{"a", "aa", "b"} {
		for _, a := range []api.Ask{drop(name), put(once(name, begin+1, 0)), put(once(name, begin+7, 0, api.Alarm{}))} {
			d := threeRungs(t)
			rung, snoozed := d.Rung(), d.Snoozed()
			if len(rung) != 6 || len(snoozed) != 6 {
				t.Fatalf("got %v, %v", rung, snoozed)
			}
			wantDone(t, d, a)
			wantNow(t, d, begin+4)
			wantRung(t, d, kept(rung, name)...)
			wantSnoozed(t, d, kept(snoozed, name)...)
			for _, r := range rung {
				if r.Name == name {
					wantRefused(t, d, done(r), api.ErrNone)
					wantRefused(t, d, snooze(r, 1), api.ErrNone)
				}
			}
			want := kept(snoozed, name)
			if len(a.Event.Alarms) > 0 {
				want = append(want, bell(name, begin+7))
				slices.SortFunc(want, byFields)
			}
			wantDone(t, d, tick(begin+100), want...)
		}
	}
}

// A Put or a Drop that is refused leaves all rings.
func TestRefusedLeavesRings(t *testing.T) {
	d := threeRungs(t)
	snoozed := d.Snoozed()
	for _, name := range []string{"", "c", "A", "aaa", "ab", " a", "aaaaaaaaa", "a\x00"} {
		wantRefused(t, d, drop(name), api.ErrNone)
	}
	for i := range mostEvents - 3 {
		wantDone(t, d, put(once("q"+string(rune('a'+i)), begin, 0)))
	}
	wantRefused(t, d, put(once("c", begin+1, 0)), api.ErrFull)
	wantRefused(t, d, put(once("a", begin+1, -1)), api.ErrRange)
	wantDone(t, d, tick(begin+100), snoozed...)
}

// Another one of a name rings as it is itself, not as the one ahead of it did.
func TestAnotherOfAName(t *testing.T) {
	d := running(t, begin, repeated(t, "a", begin+10, 0, "daily", api.Alarm{}, api.Alarm{Offset: 5}))
	wantDone(t, d, put(once("a", begin+20, 0, api.Alarm{Offset: -1})))
	wantDone(t, d, tick(begin+5*dayLong), moved(bell("a", begin+20), begin+19))
	wantDone(t, d, drop("a"))
	wantDone(t, d, tick(begin+10*dayLong))
	wantDone(t, d, put(once("a", begin+12*dayLong, 0, api.Alarm{})))
	wantDone(t, d, tick(begin+15*dayLong), bell("a", begin+12*dayLong))
}

// What rings at Now or ahead of it is not told any more of an event that is put then; what rings behind it is.
func TestPutBehindItsRings(t *testing.T) {
	for away := -3; away <= 3; away++ {
		d := running(t, begin-50)
		wantDone(t, d, tick(begin))
		wantDone(t, d, put(once("a", begin+away, 0, api.Alarm{Repeat: 3, Between: 1})))
		var want []api.Ring
		for turn := range 4 {
			if at := begin + away + turn; at > begin {
				want = append(want, api.Ring{At: at, Name: "a", Which: begin + away, Turn: turn})
			}
		}
		wantRung(t, d)
		wantDone(t, d, tick(begin+50), want...)
		wantRung(t, d, want...)
	}
}

// An event that is put anew rings again only where that is behind Now: then it is told, and has rung, as any other.
func TestRingsAgainWhenPutAnew(t *testing.T) {
	e := once("a", begin+10, 0, api.Alarm{}, api.Alarm{Offset: 10})
	first, second := bell("a", begin+10), api.Ring{At: begin + 20, Name: "a", Which: begin + 10, Alarm: 1}
	d := running(t, begin, e)
	wantDone(t, d, tick(begin+10), first)
	wantDone(t, d, put(e))
	wantRung(t, d)
	wantDone(t, d, tick(begin+19))
	wantDone(t, d, tick(begin+20), second)
	wantRung(t, d, second)
	// The one that has rung has an At that is gone by; what is put anew is moved, so that its time rings once more.
	e.Changes = []api.Change{{At: begin + 10, To: begin + 30}}
	wantDone(t, d, put(e))
	wantRung(t, d)
	wantDone(t, d, tick(begin+50), moved(first, begin+30), moved(second, begin+40))
	wantRung(t, d, moved(first, begin+30), moved(second, begin+40))
	wantDone(t, d, put(e))
	wantDone(t, d, tick(begin+mostSpan))
	wantRung(t, d)
}

// Ahead of the first Tick, too, an event may be put, be replaced and be dropped.
func TestPutAheadOfTheFirstTick(t *testing.T) {
	d := made(t)
	wantDone(t, d, put(once("a", begin+10, 0, api.Alarm{})))
	wantDone(t, d, put(once("b", begin+10, 0, api.Alarm{})))
	wantDone(t, d, put(once("a", begin+11, 0, api.Alarm{})))
	wantDone(t, d, drop("b"))
	wantRefused(t, d, drop("b"), api.ErrNone)
	wantNow(t, d, 0)
	wantDone(t, d, tick(begin))
	wantDone(t, d, tick(begin+20), bell("a", begin+11))
}
