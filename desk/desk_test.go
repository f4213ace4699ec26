package desk_test

import (
	"math"
	"slices"
	"strconv"
	"strings"
	"testing"
	"time"

	"chimework/api"
	"chimework/desk"
	"chimework/plain"
	"chimework/rule"
)

// The numbers are written out, so that they are held against ones that the program did not work out.
const (
	lastTime   = 157785119
	mostSpan   = 1000000
	mostRings  = 400
	mostEvents = 20
	longest    = 10000
	dayLong    = 1440
)

// begin is 2026-11-16 00:00.
const begin = 66729600

// noTimes are none, up to the ends of int.
var noTimes = []int{
	math.MinInt, math.MinInt + 1, math.MinInt + mostSpan, math.MinInt / 2, math.MinInt32, -lastTime, -mostSpan, -begin, -2, -1, 0,
	lastTime + 1, lastTime + 2, lastTime + mostSpan, math.MaxInt32, math.MaxInt / 2, math.MaxInt - mostSpan, math.MaxInt - 1, math.MaxInt,
}

// timeOf a text, `YYYY-MM-DD HH:MM` or, of 2026, `MM-DD HH:MM`, by the library's calendar.
func timeOf(t *testing.T, text string) int {
	t.Helper()
	if len(text) == len("01-02 15:04") {
		text = "2026-" + text
	}
	m, err := time.Parse("2006-01-02 15:04", text)
	if err != nil {
		t.Fatal(err)
	}
	return int(m.Unix()-time.Date(1900, 1, 1, 0, 0, 0, 0, time.UTC).Unix()) / 60
}

// ringsOf a text: when it rings, the name, which time that is of, the number of the alarm and the turn, `|` between; commas between two of them.
func ringsOf(t *testing.T, text string) []api.Ring {
	t.Helper()
	var list []api.Ring
	for _, words := range strings.Split(text, ",") {
		if words == "" {
			continue
		}
		parts := strings.Split(words, "|")
		if len(parts) != 4 {
			t.Fatalf("%q are no four parts", words)
		}
		number, turn, _ := strings.Cut(parts[3], ".")
		k, wrong := strconv.Atoi(number)
		n, bad := strconv.Atoi(turn)
		if wrong != nil || bad != nil {
			t.Fatalf("%q are no two numbers", parts[3])
		}
		list = append(list, api.Ring{At: timeOf(t, parts[0]), Name: parts[1], Which: timeOf(t, parts[2]), Alarm: k, Turn: n})
	}
	return list
}

// zoneOf what it is ahead of all shifts, and then At and Ahead of each.
func zoneOf(ahead int, numbers ...int) api.Zone {
	z := api.Zone{Ahead: ahead}
	for pair := range slices.Chunk(numbers, 2) {
		z.Shifts = append(z.Shifts, api.Shift{At: pair[0], Ahead: pair[1]})
	}
	return z
}

// once makes an event that is at one time.
func once(name string, start, length int, alarms ...api.Alarm) api.Event {
	return api.Event{Name: name, Start: start, Length: length, Alarms: alarms}
}

// repeated makes an event that repeats by a rule, as it is written.
func repeated(t *testing.T, name string, start, length int, text string, alarms ...api.Alarm) api.Event {
	t.Helper()
	r, err := rule.Parse(text)
	if err != nil {
		t.Fatalf("%q: %v", text, err)
	}
	return api.Event{Name: name, Start: start, Length: length, Repeats: true, Rule: r, Alarms: alarms}
}

// bell of an event that is once, and rings at its one time.
func bell(name string, at int) api.Ring { return api.Ring{At: at, Name: name, Which: at} }

// moved is a ring at another time.
func moved(r api.Ring, at int) api.Ring {
	r.At = at
	return r
}

func put(e api.Event) api.Ask           { return api.Ask{What: api.Put, Event: e} }
func drop(name string) api.Ask          { return api.Ask{What: api.Drop, Name: name} }
func tick(n int) api.Ask                { return api.Ask{What: api.Tick, N: n} }
func done(r api.Ring) api.Ask           { return api.Ask{What: api.Done, Ring: r} }
func snooze(r api.Ring, n int) api.Ask  { return api.Ask{What: api.Snooze, Ring: r, N: n} }
func made(t *testing.T) *desk.Desk      { t.Helper(); return madeIn(t, zoneOf(0)) }
func list(rings ...api.Ring) []api.Ring { return rings }

func madeIn(t *testing.T, z api.Zone) *desk.Desk {
	t.Helper()
	d, err := desk.New(z)
	if d == nil || err != nil {
		t.Fatalf("New(%v): got %v, %v", z, d, err)
	}
	return d
}

// wantDone asks what is to be done without an error, and that it tells these.
func wantDone(t *testing.T, d *desk.Desk, a api.Ask, want ...api.Ring) {
	t.Helper()
	got, err := d.Do(a)
	if err != nil || !slices.Equal(got, want) {
		t.Fatalf("Do(%+v): got %d rings %v, %v, want %d: %v", a, len(got), got, err, len(want), want)
	}
}

// held is all that a desk tells without being asked to do anything.
type held struct {
	now           int
	names         []string
	rung, snoozed []api.Ring
}

func heldBy(d *desk.Desk) held {
	return held{now: d.Now(), names: d.Names(), rung: d.Rung(), snoozed: d.Snoozed()}
}

func (h held) is(other held) bool {
	return h.now == other.now && slices.Equal(h.names, other.names) && slices.Equal(h.rung, other.rung) && slices.Equal(h.snoozed, other.snoozed)
}

// wantRefused asks what is to be an error, and that the desk tells the same behind it.
func wantRefused(t *testing.T, d *desk.Desk, a api.Ask, want api.Errno) {
	t.Helper()
	before := heldBy(d)
	got, err := d.Do(a)
	if len(got) != 0 || plain.Told(err) != want {
		t.Fatalf("Do(%+v): got %v, %v, want none, %v", a, got, err, want)
	}
	if after := heldBy(d); !after.is(before) {
		t.Fatalf("Do(%+v), which is %v, changed it: %+v, it was %+v", a, want, after, before)
	}
}

// wantNames, blanks between them.
func wantNames(t *testing.T, d *desk.Desk, want string) {
	t.Helper()
	if got := d.Names(); !slices.Equal(got, strings.Fields(want)) {
		t.Fatalf("Names: got %q, want %q", got, want)
	}
}

func wantRung(t *testing.T, d *desk.Desk, want ...api.Ring) {
	t.Helper()
	if got := d.Rung(); !slices.Equal(got, want) {
		t.Fatalf("Rung: got %v, want %v", got, want)
	}
}

func wantSnoozed(t *testing.T, d *desk.Desk, want ...api.Ring) {
	t.Helper()
	if got := d.Snoozed(); !slices.Equal(got, want) {
		t.Fatalf("Snoozed: got %v, want %v", got, want)
	}
}

func wantNow(t *testing.T, d *desk.Desk, want int) {
	t.Helper()
	if got := d.Now(); got != want {
		t.Fatalf("Now: got %d, want %d", got, want)
	}
}

// running makes a desk that is at a time, with events.
func running(t *testing.T, now int, events ...api.Event) *desk.Desk {
	t.Helper()
	d := made(t)
	for _, e := range events {
		wantDone(t, d, put(e))
	}
	wantDone(t, d, tick(now))
	return d
}

func TestNewOne(t *testing.T) {
	for _, z := range []api.Zone{zoneOf(0), zoneOf(900), zoneOf(-900), zoneOf(60, begin, 120, begin+dayLong, 60)} {
		d := madeIn(t, z)
		wantNow(t, d, 0)
		wantNames(t, d, "")
		wantRung(t, d)
		wantSnoozed(t, d)
	}
}

// A desk without any event goes on, and nothing rings.
func TestNoEvent(t *testing.T) {
	d := made(t)
	for _, n := range []int{1, 2, begin % mostSpan, begin % mostSpan * 2} {
		wantDone(t, d, tick(n))
		wantNow(t, d, n)
		wantNames(t, d, "")
		wantRung(t, d)
		wantSnoozed(t, d)
	}
}

// A day at a desk, as it is told.
func TestADay(t *testing.T) {
	meet := repeated(t, "meet", timeOf(t, "11-16 09:30"), 90, "weekly on mo,th", api.Alarm{Offset: -10}, api.Alarm{Offset: 5, End: true, Repeat: 1, Between: 15})
	meet.Text = "each week"
	call := once("call", timeOf(t, "11-16 09:20"), 0, api.Alarm{})
	quiet := once("quiet", timeOf(t, "11-16 10:00"), 60)
	d := made(t)
	wantDone(t, d, put(meet))
	wantDone(t, d, put(quiet))
	wantDone(t, d, put(call))
	wantNames(t, d, "call meet quiet")
	wantDone(t, d, tick(timeOf(t, "11-16 09:00")))
	wantNow(t, d, timeOf(t, "11-16 09:00"))
	wantDone(t, d, tick(timeOf(t, "11-16 09:19")))
	first := ringsOf(t, "11-16 09:20|call|11-16 09:20|0.0,11-16 09:20|meet|11-16 09:30|0.0")
	wantDone(t, d, tick(timeOf(t, "11-16 09:20")), first...)
	wantRung(t, d, first...)
	wantDone(t, d, tick(timeOf(t, "11-16 09:21")))
	wantDone(t, d, done(first[0]))
	wantRung(t, d, first[1])
	wantDone(t, d, snooze(first[1], 5))
	wantRung(t, d)
	again := ringsOf(t, "11-16 09:26|meet|11-16 09:30|0.0")
	wantSnoozed(t, d, again...)
	wantDone(t, d, tick(timeOf(t, "11-16 09:25")))
	wantDone(t, d, tick(timeOf(t, "11-16 11:19")), ringsOf(t, "11-16 09:26|meet|11-16 09:30|0.0,11-16 11:05|meet|11-16 09:30|1.0")...)
	wantSnoozed(t, d)
	wantDone(t, d, tick(timeOf(t, "11-19 11:20")), ringsOf(t, "11-16 11:20|meet|11-16 09:30|1.1,11-19 09:20|meet|11-19 09:30|0.0,11-19 11:05|meet|11-19 09:30|1.0,11-19 11:20|meet|11-19 09:30|1.1")...)
	wantRung(t, d, ringsOf(t, "11-16 09:26|meet|11-16 09:30|0.0,11-16 11:05|meet|11-16 09:30|1.0,11-16 11:20|meet|11-16 09:30|1.1,11-19 09:20|meet|11-19 09:30|0.0,11-19 11:05|meet|11-19 09:30|1.0,11-19 11:20|meet|11-19 09:30|1.1")...)
	wantDone(t, d, drop("meet"))
	wantRung(t, d)
	wantNames(t, d, "call quiet")
	wantDone(t, d, tick(timeOf(t, "12-31 00:00")))
}

// pictures of one event in a zone: what is told from one Tick to another one.
var pictures = []struct {
	what     string
	zone     func(t *testing.T) api.Zone
	event    func(t *testing.T) api.Event
	from, to string
	want     string
}{
	{"not again, without an alarm", flat(0), single(90), "11-15 00:00", "11-18 00:00", ""},
	{"not again, at its begin", flat(0), single(90, api.Alarm{}), "11-15 00:00", "11-18 00:00", "11-16 09:30|a|11-16 09:30|0.0"},
	{"ahead of and behind the begin", flat(0), single(90, api.Alarm{Offset: 7}, api.Alarm{Offset: -1500}), "11-15 00:00", "11-18 00:00", "11-15 08:30|a|11-16 09:30|1.0,11-16 09:37|a|11-16 09:30|0.0"},
	{"ahead of and behind the end", flat(0), single(90, api.Alarm{Offset: 7, End: true}, api.Alarm{Offset: -7, End: true}), "11-15 00:00", "11-18 00:00", "11-16 10:53|a|11-16 09:30|1.0,11-16 11:07|a|11-16 09:30|0.0"},
	{"again and again", flat(0), single(90, api.Alarm{Offset: -5, Repeat: 2, Between: 5}, api.Alarm{Repeat: 1, Between: 5}), "11-16 00:00", "11-17 00:00", "11-16 09:25|a|11-16 09:30|0.0,11-16 09:30|a|11-16 09:30|0.1,11-16 09:30|a|11-16 09:30|1.0,11-16 09:35|a|11-16 09:30|0.2,11-16 09:35|a|11-16 09:30|1.1"},
	{"only some turns are in the time", flat(0), single(90, api.Alarm{Repeat: 5, Between: 10}), "11-16 09:40", "11-16 10:00", "11-16 09:50|a|11-16 09:30|0.2,11-16 10:00|a|11-16 09:30|0.3"},
	{"ahead", flat(60), single(90, api.Alarm{}), "11-16 00:00", "11-17 00:00", "11-16 08:30|a|11-16 09:30|0.0"},
	{"behind", flat(-300), single(90, api.Alarm{}), "11-16 00:00", "11-17 00:00", "11-16 14:30|a|11-16 09:30|0.0"},
	{"each day", flat(60), daily("daily count 3", nil), "11-15 00:00", "11-30 00:00", "11-16 08:30|a|11-16 09:30|0.0,11-17 08:30|a|11-17 09:30|0.0,11-18 08:30|a|11-18 09:30|0.0"},
	{"more and not", flat(0), daily("daily count 3", func(t *testing.T, e *api.Event) {
		e.More = []int{timeOf(t, "11-15 12:00"), timeOf(t, "11-17 12:00")}
		e.Not = []int{timeOf(t, "11-17 09:30")}
	}), "11-15 00:00", "11-30 00:00", "11-15 12:00|a|11-15 12:00|0.0,11-16 09:30|a|11-16 09:30|0.0,11-17 12:00|a|11-17 12:00|0.0,11-18 09:30|a|11-18 09:30|0.0"},
	{"called off and moved", flat(0), daily("daily count 3", func(t *testing.T, e *api.Event) {
		e.Changes = []api.Change{{At: timeOf(t, "11-16 09:30")}, {At: timeOf(t, "11-17 09:30"), To: timeOf(t, "11-18 09:30")}}
	}), "11-15 00:00", "11-30 00:00", "11-18 09:30|a|11-17 09:30|0.0,11-18 09:30|a|11-18 09:30|0.0"},
	{"moved out of the time", flat(0), daily("daily count 3", func(t *testing.T, e *api.Event) {
		e.Changes = []api.Change{{At: timeOf(t, "11-17 09:30"), To: timeOf(t, "12-01 09:30")}}
	}), "11-15 00:00", "11-30 00:00", "11-16 09:30|a|11-16 09:30|0.0,11-18 09:30|a|11-18 09:30|0.0"},
	{"moved into the time", flat(0), daily("daily count 3", func(t *testing.T, e *api.Event) {
		e.Changes = []api.Change{{At: timeOf(t, "11-17 09:30"), To: timeOf(t, "12-01 09:30")}}
	}), "11-30 00:00", "12-02 00:00", "12-01 09:30|a|11-17 09:30|0.0"},
	{"an hour more from the 17th on", shifted(0, 60), daily("daily count 3", nil), "11-15 00:00", "11-30 00:00", "11-16 09:30|a|11-16 09:30|0.0,11-17 08:30|a|11-17 09:30|0.0,11-18 08:30|a|11-18 09:30|0.0"},
	{"an hour that is twice", shifted(120, 60), single(0, api.Alarm{}).at("11-17 01:30"), "11-15 00:00", "11-30 00:00", "11-16 23:30|a|11-17 01:30|0.0"},
	{"a gap", shifted(60, 120), single(0, api.Alarm{}).at("11-17 01:30"), "11-15 00:00", "11-30 00:00", ""},
}

type maker func(t *testing.T) api.Event

// at another time.
func (m maker) at(text string) maker {
	return func(t *testing.T) api.Event {
		e := m(t)
		e.Start = timeOf(t, text)
		return e
	}
}

func flat(ahead int) func(*testing.T) api.Zone {
	return func(*testing.T) api.Zone { return zoneOf(ahead) }
}

// shifted from one to another one at the beginning of the 17th.
func shifted(ahead, then int) func(*testing.T) api.Zone {
	return func(t *testing.T) api.Zone { return zoneOf(ahead, timeOf(t, "11-17 00:00"), then) }
}

func single(length int, alarms ...api.Alarm) maker {
	return func(t *testing.T) api.Event { return once("a", timeOf(t, "11-16 09:30"), length, alarms...) }
}

func daily(text string, change func(*testing.T, *api.Event)) maker {
	return func(t *testing.T) api.Event {
		e := repeated(t, "a", timeOf(t, "11-16 09:30"), 90, text, api.Alarm{})
		if change != nil {
			change(t, &e)
		}
		return e
	}
}

// Each picture at once, and in small and uneven steps: what is told, and has rung, is the same.
func TestPictures(t *testing.T) {
	for _, p := range pictures {
		t.Run(p.what, func(t *testing.T) {
			from, to, want := timeOf(t, p.from), timeOf(t, p.to), ringsOf(t, p.want)
			for _, steps := range [][]int{{to - from}, {5}, {1, 29}, {1, 1, 118}, {60}, {1439}, {1440}, {1441, 1}} {
				d := madeIn(t, p.zone(t))
				wantDone(t, d, put(p.event(t)))
				wantDone(t, d, tick(from))
				var told []api.Ring
				for i := 0; d.Now() < to; i++ {
					got, err := d.Do(tick(min(d.Now()+steps[i%len(steps)], to)))
					if err != nil {
						t.Fatal(err)
					}
					told = append(told, got...)
					wantRung(t, d, told...)
				}
				if !slices.Equal(told, want) {
					t.Errorf("in steps of %v: got %v, want %v", steps, told, want)
				}
				wantNow(t, d, to)
				wantSnoozed(t, d)
			}
		})
	}
}

// Several events together ring by Order: by At, then by their names, and so on.
func TestSeveralByOrder(t *testing.T) {
	alarms := []api.Alarm{{Repeat: 1, Between: 10}, {Offset: 10}, {}}
	events := []api.Event{once("b", begin+20, 0, alarms...), once("ab", begin+10, 0, alarms...), once("a", begin+20, 0, alarms...), once("aa", begin+10, 0, alarms...)}
	events[3].More = []int{begin + 20}
	of := func(at int, name string, which, number, turn int) api.Ring {
		return api.Ring{At: begin + at, Name: name, Which: begin + which, Alarm: number, Turn: turn}
	}
	want := list(
		of(10, "aa", 10, 0, 0), of(10, "aa", 10, 2, 0), of(10, "ab", 10, 0, 0), of(10, "ab", 10, 2, 0),
		of(20, "a", 20, 0, 0), of(20, "a", 20, 2, 0),
		of(20, "aa", 10, 0, 1), of(20, "aa", 10, 1, 0), of(20, "aa", 20, 0, 0), of(20, "aa", 20, 2, 0),
		of(20, "ab", 10, 0, 1), of(20, "ab", 10, 1, 0),
		of(20, "b", 20, 0, 0), of(20, "b", 20, 2, 0),
		of(30, "a", 20, 0, 1), of(30, "a", 20, 1, 0), of(30, "aa", 20, 0, 1), of(30, "aa", 20, 1, 0), of(30, "b", 20, 0, 1), of(30, "b", 20, 1, 0),
	)
	for range events {
		events = append(events[1:], events[0])
		d := running(t, begin, events...)
		wantNames(t, d, "a aa ab b")
		wantDone(t, d, tick(begin+30), want...)
		wantRung(t, d, want...)
		// Rings of earlier and of later Ticks, and such as were snoozed, are in one order.
		d = running(t, begin, events...)
		wantDone(t, d, tick(begin+10), want[:4]...)
		wantDone(t, d, snooze(want[2], 10))
		again := slices.Insert(slices.Clone(want[4:]), 6, moved(want[2], begin+20))
		wantDone(t, d, tick(begin+30), again...)
		wantRung(t, d, append(slices.Concat(want[:2], want[3:4]), again...)...)
	}
}
