package log_test

import (
	"math"
	"slices"
	"testing"

	"chimework/api"
	"chimework/desk"
	"chimework/log"
	"chimework/plain"
	"chimework/rule"
)

// The numbers are written out, so that they are held against ones that the program did not work out.
const (
	lastTime = 157785119
	mostSpan = 1000000
	dayLong  = 1440
	// begin is 2026-11-16 00:00, a Monday.
	begin = 66729600
)

func zoneOf(ahead int, shifts ...api.Shift) api.Zone { return api.Zone{Ahead: ahead, Shifts: shifts} }

// zones without shifts and with some, near begin and far from it.
func zones() []api.Zone {
	return []api.Zone{
		zoneOf(0), zoneOf(60), zoneOf(-900), zoneOf(900),
		zoneOf(60, api.Shift{At: begin + 700, Ahead: 120}),
		zoneOf(0, api.Shift{At: begin - 100000, Ahead: -30}, api.Shift{At: begin + 1440, Ahead: 60}, api.Shift{At: begin + 2880, Ahead: -60}),
		zoneOf(-300, api.Shift{At: 1, Ahead: 0}, api.Shift{At: lastTime, Ahead: 900}),
	}
}

// once makes an event that is at one time.
func once(name string, start int, alarms ...api.Alarm) api.Event {
	return api.Event{Name: name, Start: start, Alarms: alarms}
}

// repeated makes an event that repeats by a rule, as it is written.
func repeated(t *testing.T, name string, start int, text string, alarms ...api.Alarm) api.Event {
	t.Helper()
	r, err := rule.Parse(text)
	if err != nil {
		t.Fatalf("%q: %v", text, err)
	}
	return api.Event{Name: name, Start: start, Repeats: true, Rule: r, Alarms: alarms}
}

// bell of an event that is once, and rings at its one time.
func bell(name string, at int) api.Ring { return api.Ring{At: at, Name: name, Which: at} }

// later is a ring at another time.
func later(r api.Ring, at int) api.Ring {
	r.At = at
	return r
}

func put(e api.Event) api.Ask          { return api.Ask{What: api.Put, Event: e} }
func drop(name string) api.Ask         { return api.Ask{What: api.Drop, Name: name} }
func tick(n int) api.Ask               { return api.Ask{What: api.Tick, N: n} }
func done(r api.Ring) api.Ask          { return api.Ask{What: api.Done, Ring: r} }
func snooze(r api.Ring, n int) api.Ask { return api.Ask{What: api.Snooze, Ring: r, N: n} }

func madeIn(t *testing.T, z api.Zone) *log.Log {
	t.Helper()
	l, err := log.New(z)
	if l == nil || err != nil {
		t.Fatalf("New(%v): got %v, %v", z, l, err)
	}
	return l
}

// logOf asks that are done, none of them an error, in a zone.
func logOf(t *testing.T, z api.Zone, asks ...api.Ask) *log.Log {
	t.Helper()
	l := madeIn(t, z)
	doAll(t, l, asks...)
	return l
}

// doAll asks, none of which is to be an error.
func doAll(t *testing.T, l *log.Log, asks ...api.Ask) {
	t.Helper()
	for _, a := range asks {
		if _, err := l.Do(a); err != nil {
			t.Fatalf("Do(%+v): %v", a, err)
		}
	}
}

// deskOf asks that are done, none of them an error: a desk that has nothing to do with a log.
func deskOf(t *testing.T, z api.Zone, asks ...api.Ask) *desk.Desk {
	t.Helper()
	d, err := desk.New(z)
	if err != nil {
		t.Fatalf("New(%v): %v", z, err)
	}
	for _, a := range asks {
		if _, err := d.Do(a); err != nil {
			t.Fatalf("Do(%+v): %v", a, err)
		}
	}
	return d
}

// held is all that a desk tells without being asked to do anything.
type held struct {
	now           int
	names         []string
	rung, snoozed []api.Ring
}

func heldBy(d *desk.Desk) held {
	return held{now: d.Now(), names: d.Names(), rung: d.Rung(), snoozed: d.Snoozed()}
}

func (h held) is(other held) bool {
	return h.now == other.now && slices.Equal(h.names, other.names) && slices.Equal(h.rung, other.rung) && slices.Equal(h.snoozed, other.snoozed)
}

// wantHeld asks that the log's desk tells what another one does.
func wantHeld(t *testing.T, l *log.Log, want *desk.Desk) {
	t.Helper()
	if got, want := heldBy(l.Desk()), heldBy(want); !got.is(want) {
		t.Fatalf("the desk: got %+v, want %+v", got, want)
	}
}

// wantSame does the same of a log and of a desk: it is told the same, and both tell the same behind it.
func wantSame(t *testing.T, l *log.Log, d *desk.Desk, a api.Ask) {
	t.Helper()
	want, wrong := d.Do(a)
	got, err := l.Do(a)
	if !slices.Equal(got, want) || plain.Told(err) != plain.Told(wrong) {
		t.Fatalf("Do(%+v): got %v, %v, want %v, %v", a, got, err, want, wrong)
	}
	wantHeld(t, l, d)
}

// wantSize asks how many bytes there are, and how many are safe.
func wantSize(t *testing.T, l *log.Log, bytes, safe int) {
	t.Helper()
	if l.Bytes() != bytes || l.Safe() != safe {
		t.Fatalf("got %d bytes, %d of them safe, want %d, %d", l.Bytes(), l.Safe(), bytes, safe)
	}
}

// wantRefused asks what is to be an error, and that nothing is changed by it.
func wantRefused(t *testing.T, l *log.Log, a api.Ask, want api.Errno) {
	t.Helper()
	before, bytes, safe := heldBy(l.Desk()), l.Bytes(), l.Safe()
	got, err := l.Do(a)
	if len(got) != 0 || plain.Told(err) != want {
		t.Fatalf("Do(%+v): got %v, %v, want none, %v", a, got, err, want)
	}
	wantSize(t, l, bytes, safe)
	if after := heldBy(l.Desk()); !after.is(before) {
		t.Fatalf("Do(%+v), which is %v, changed it: %+v, it was %+v", a, want, after, before)
	}
}

// wantSync asks that all is safe behind it.
func wantSync(t *testing.T, l *log.Log) {
	t.Helper()
	bytes, before := l.Bytes(), heldBy(l.Desk())
	if err := l.Sync(); err != nil {
		t.Fatalf("Sync: %v", err)
	}
	wantSize(t, l, bytes, bytes)
	if after := heldBy(l.Desk()); !after.is(before) {
		t.Fatalf("Sync changed the desk: %+v, it was %+v", after, before)
	}
}

// wantNoSync asks that it is ErrState, and that nothing is changed by it.
func wantNoSync(t *testing.T, l *log.Log) {
	t.Helper()
	before, bytes, safe := heldBy(l.Desk()), l.Bytes(), l.Safe()
	if err := l.Sync(); plain.Told(err) != api.ErrState {
		t.Fatalf("Sync: got %v, want ErrState", err)
	}
	wantSize(t, l, bytes, safe)
	if after := heldBy(l.Desk()); !after.is(before) {
		t.Fatalf("Sync changed the desk: %+v, it was %+v", after, before)
	}
}

// sizeOf an ask's record, behind asks that are done: of a log beside it.
func sizeOf(t *testing.T, z api.Zone, asks []api.Ask, a api.Ask) int {
	t.Helper()
	l := logOf(t, z, asks...)
	before := l.Bytes()
	doAll(t, l, a)
	return l.Bytes() - before
}

// ends of the records of asks, behind one another; ahead of the first one stands 0.
func ends(t *testing.T, z api.Zone, asks ...api.Ask) []int {
	t.Helper()
	l, list := madeIn(t, z), []int{0}
	for _, a := range asks {
		doAll(t, l, a)
		list = append(list, l.Bytes())
	}
	return list
}

// story of asks of each kind, none of which is an error: rings that rang, that are done and that are snoozed, events that are gone, and one in the place of another one of its name. The zone is the one that it is told in.
func story(t *testing.T) (api.Zone, []api.Ask) {
	t.Helper()
	meet := repeated(t, "meet", begin+570, "weekly every 2 count 9 on mo,th", api.Alarm{Offset: -10}, api.Alarm{Offset: 5, End: true, Repeat: 2, Between: 15})
	meet.Text, meet.Length = "each second week; or so, \\", 90
	meet.More, meet.Not = []int{begin + 700, begin + 2000}, []int{begin + 570 + 3*dayLong}
	meet.Changes = []api.Change{{At: begin + 700, To: begin + 710}, {At: begin + 2000}}
	z := zoneOf(0, api.Shift{At: begin + 1000, Ahead: 60})
	return z, []api.Ask{
		put(meet),
		put(once("call", begin+560, api.Alarm{})),
		put(once("gone", begin+560, api.Alarm{})),
		tick(begin),
		tick(begin + 560),
		snooze(api.Ring{At: begin + 560, Name: "meet", Which: begin + 570}, 7),
		done(bell("call", begin+560)),
		snooze(bell("gone", begin+560), 10000),
		put(once("call", begin+565, api.Alarm{}, api.Alarm{Offset: 300, Repeat: 5, Between: 100})),
		tick(begin + 569),
		drop("gone"),
		put(repeated(t, "other", begin+100, "daily every 3 until 2027-02-03", api.Alarm{End: true})),
		done(later(api.Ring{Name: "meet", Which: begin + 570}, begin+567)),
		tick(begin + 3000),
	}
}

func TestNewOne(t *testing.T) {
	for _, z := range zones() {
		l := madeIn(t, z)
		wantSize(t, l, 0, 0)
		wantHeld(t, l, deskOf(t, z))
		wantSync(t, l)
		for _, keep := range []int{0, 1, -1, math.MaxInt} {
			l.Crash(keep)
			wantSize(t, l, 0, 0)
			wantHeld(t, l, deskOf(t, z))
		}
		wantSame(t, l, deskOf(t, z), tick(begin))
	}
}

// A log tells what a desk does that is asked the same.
func TestTellsWhatADeskTells(t *testing.T) {
	_, asks := story(t)
	for _, z := range zones() {
		l, d := madeIn(t, z), deskOf(t, z)
		for _, a := range asks {
			wantSame(t, l, d, a)
		}
		for n := d.Now() + 1; n < begin+60*dayLong; n += 1 + n%5000 {
			wantSame(t, l, d, tick(n))
		}
	}
}

// A morning at a log, as it is told, with a Crash in it.
func TestAMorning(t *testing.T) {
	l := madeIn(t, zoneOf(60))
	of := func(at, which, number, turn int) api.Ring {
		return api.Ring{At: begin + at, Name: "a", Which: begin + which, Alarm: number, Turn: turn}
	}
	tell := func(a api.Ask, want ...api.Ring) {
		t.Helper()
		if got, err := l.Do(a); err != nil || !slices.Equal(got, want) {
			t.Fatalf("Do(%+v): got %v, %v, want %v", a, got, err, want)
		}
	}
	tell(put(repeated(t, "a", begin+570, "daily count 2", api.Alarm{Offset: -10}, api.Alarm{Repeat: 1, Between: 3})))
	tell(tick(begin))
	tell(tick(begin+500), of(500, 570, 0, 0))
	wantSync(t, l)
	tell(snooze(of(500, 570, 0, 0), 11))
	tell(tick(begin+510), of(510, 570, 1, 0))
	l.Crash(0)
	if d := l.Desk(); d.Now() != begin+500 || !slices.Equal(d.Rung(), []api.Ring{of(500, 570, 0, 0)}) || len(d.Snoozed()) != 0 || !slices.Equal(d.Names(), []string{"a"}) {
		t.Fatalf("behind the Crash: %+v", heldBy(d))
	}
	tell(snooze(of(500, 570, 0, 0), 12))
	l.Crash(l.Bytes())
	tell(tick(begin+513), of(510, 570, 1, 0), of(512, 570, 0, 0), of(513, 570, 1, 1))
	tell(done(of(510, 570, 1, 0)))
	tell(tick(begin+2*dayLong), of(1940, 2010, 0, 0), of(1950, 2010, 1, 0), of(1953, 2010, 1, 1))
	if want := []api.Ring{of(512, 570, 0, 0), of(513, 570, 1, 1), of(1940, 2010, 0, 0), of(1950, 2010, 1, 0), of(1953, 2010, 1, 1)}; !slices.Equal(l.Desk().Rung(), want) {
		t.Fatalf("Rung: got %v, want %v", l.Desk().Rung(), want)
	}
}

// Each ask that is done makes at least two bytes more, of which none is safe; those with an error none.
func TestBytesMore(t *testing.T) {
	z, asks := story(t)
	l, bytes := madeIn(t, z), 0
	for _, a := range asks {
		wantRefused(t, l, drop("nobody"), api.ErrNone)
		doAll(t, l, a)
		if more := l.Bytes() - bytes; more < 2 {
			t.Errorf("%+v makes %d bytes more", a, more)
		}
		bytes = l.Bytes()
		wantSize(t, l, bytes, 0)
	}
	// The least of asks, too.
	l = madeIn(t, zoneOf(0))
	for i, a := range []api.Ask{tick(1), put(once("a", 1)), tick(2), drop("a")} {
		bytes = l.Bytes()
		doAll(t, l, a)
		if l.Bytes()-bytes < 2 {
			t.Errorf("ask %d makes %d bytes more", i, l.Bytes()-bytes)
		}
	}
}

// Behind a Sync all is safe, and what comes behind it is not, till the next one.
func TestSafe(t *testing.T) {
	z, asks := story(t)
	for every := 1; every <= len(asks); every++ {
		l, safe := madeIn(t, z), 0
		for i, a := range asks {
			doAll(t, l, a)
			wantSize(t, l, l.Bytes(), safe)
			if i%every == every-1 {
				wantSync(t, l)
				wantSync(t, l)
				safe = l.Bytes()
			}
		}
		wantHeld(t, l, deskOf(t, z, asks...))
	}
}

// Looking at it changes nothing, and two logs that are asked the same tell the same.
func TestTheSameAgain(t *testing.T) {
	z, asks := story(t)
	a, b := madeIn(t, z), madeIn(t, z)
	for i, ask := range asks {
		got, _ := a.Do(ask)
		again, _ := b.Do(ask)
		if !slices.Equal(got, again) {
			t.Fatalf("Do(%+v): got %v, then %v", ask, got, again)
		}
		if i%3 == 0 {
			wantSync(t, a)
			wantSync(t, b)
		}
		for range i % 4 {
			heldBy(b.Desk())
		}
		wantSize(t, b, a.Bytes(), a.Safe())
		wantHeld(t, b, a.Desk())
	}
	a.Crash(40)
	b.Crash(40)
	wantSize(t, b, a.Bytes(), a.Safe())
	wantHeld(t, b, a.Desk())
}
