package run_test

import (
	"strings"
	"testing"
)

// An event that comes once, with alarms that are added one by one: ahead of its beginning, at it, and behind it.
func TestOnce(t *testing.T) {
	wantSession(t, `
put a 2026-11-16 09:30 1h => ok
tick 2026-11-16 08:00 => -
next a 2026-11-16 08:00 => 2026-11-16 09:30
alarm a -10m => ok
alarm a 0m => ok
tick 2026-11-16 09:19 => -
rung => 0
tick 2026-11-16 09:20 => a@2026-11-16 09:20
rung => 1
tick 2026-11-16 09:21 => -
rung => 1
tick 2026-11-16 09:30 => a@2026-11-16 09:30
rung => 2
alarm a 1h => ok
rung => 0
tick 2026-11-16 12:00 => a@2026-11-16 10:30
rung => 1
next a 2026-11-16 12:00 => ErrNone
tick 2027-11-16 12:00 => -
rung => 1
`)
}

// An alarm is from the beginning of its event, not from its end, rings once, and may be far away.
func TestAlarms(t *testing.T) {
	wantSession(t, `
tick 2026-11-01 00:00 => -
put a 2026-11-16 09:30 1d => ok
alarm a 5m => ok
alarm a 5m => ok
alarm a -5d => ok
alarm a 2d => ok
alarm a 1m => ErrFull
tick 2026-11-11 09:30 => a@2026-11-11 09:30
tick 2026-11-16 09:34 => -
tick 2026-11-16 09:36 => a@2026-11-16 09:35,a@2026-11-16 09:35
tick 2026-12-31 00:00 => a@2026-11-18 09:30
rung => 4
put b 2026-11-16 09:30 0m => ok
alarm b 69d10h40m => ok
alarm b -69d10h40m => ok
alarm b 69d10h41m => ErrRange
alarm b -69d10h41m => ErrRange
tick 2027-01-24 20:09 => -
tick 2027-01-24 20:10 => b@2027-01-24 20:10
rung => 5
`)
}

// An event without an alarm does not ring, and one that has one rings from now on alone.
func TestQuiet(t *testing.T) {
	wantSession(t, `
every q 2026-11-16 09:30 1h daily => ok
tick 2026-11-16 09:00 => -
tick 2026-11-20 09:00 => -
rung => 0
alarm q 0m => ok
tick 2026-11-20 09:29 => -
tick 2026-11-21 09:30 => q@2026-11-20 09:30,q@2026-11-21 09:30
rung => 2
`)
}

// The four kinds of rule.
func TestKindsOfRule(t *testing.T) {
	wantSession(t, `
every d 2026-11-16 07:00 30m daily every 2 count 3 => ok
every w 2026-11-16 08:00 30m weekly until 2026-11-26 on mo,th => ok
every m 2026-11-16 09:00 0m monthly on -1fr => ok
every y 2026-11-16 10:00 0m yearly months 2 days 29 => ok
alarm d 0m => ok
alarm w 0m => ok
alarm m 0m => ok
alarm y 0m => ok
next d 2026-11-16 06:59 => 2026-11-16 07:00
next d 2026-11-16 07:00 => 2026-11-18 07:00
next d 2026-11-20 06:59 => 2026-11-20 07:00
next d 2026-11-20 07:00 => ErrNone
next w 2026-11-16 08:00 => 2026-11-19 08:00
next w 2026-11-23 08:00 => 2026-11-26 08:00
next w 2026-11-26 08:00 => ErrNone
next m 2026-11-16 09:00 => 2026-11-27 09:00
next m 2026-11-27 09:00 => 2026-12-25 09:00
next y 2026-11-16 09:59 => 2026-11-16 10:00
next y 2026-11-16 10:00 => ErrNone
next y 2027-06-01 00:00 => 2028-02-29 10:00
tick 2026-11-15 00:00 => -
tick 2026-11-18 00:00 => d@2026-11-16 07:00,w@2026-11-16 08:00,m@2026-11-16 09:00,y@2026-11-16 10:00
tick 2026-11-20 07:00 => d@2026-11-18 07:00,w@2026-11-19 08:00,d@2026-11-20 07:00
tick 2026-12-31 00:00 => w@2026-11-23 08:00,w@2026-11-26 08:00,m@2026-11-27 09:00,m@2026-12-25 09:00
rung => 11
drop m => ok
rung => 8
tick 2028-02-29 09:59 => -
tick 2028-02-29 10:00 => y@2028-02-29 10:00
rung => 9
`)
}

// Several events ring together: by the time, then the name.
func TestByOrder(t *testing.T) {
	wantSession(t, `
put c 2026-11-16 09:30 0m => ok
put b 2026-11-16 09:31 0m => ok
put ab 2026-11-16 09:30 0m => ok
put a 2026-11-16 09:40 0m => ok
alarm c 0m => ok
alarm b -1m => ok
alarm ab 0m => ok
alarm a -10m => ok
alarm a -11m => ok
tick 2026-11-16 09:00 => -
tick 2026-11-16 10:00 => a@2026-11-16 09:29,a@2026-11-16 09:30,ab@2026-11-16 09:30,b@2026-11-16 09:30,c@2026-11-16 09:30
rung => 5
drop ab => ok
rung => 4
drop a => ok
rung => 2
`)
}

// An event that is put anew under its name, whether it comes once or again: its rings are gone with it, and those of others stay.
func TestPutAnew(t *testing.T) {
	wantSession(t, `
every a 2026-11-16 09:30 1h daily => ok
alarm a 0m => ok
put b 2026-11-16 09:30 1h => ok
alarm b 0m => ok
tick 2026-11-16 09:00 => -
tick 2026-11-17 12:00 => a@2026-11-16 09:30,b@2026-11-16 09:30,a@2026-11-17 09:30
rung => 3
put a 2026-11-19 09:30 1h => ok
rung => 1
tick 2026-11-18 12:00 => -
next a 2026-11-17 12:00 => 2026-11-19 09:30
next a 2026-11-19 09:30 => ErrNone
alarm a -1h => ok
tick 2026-11-19 12:00 => a@2026-11-19 08:30
rung => 2
every b 2026-11-16 10:30 1h weekly => ok
rung => 1
next b 2026-11-19 12:00 => 2026-11-23 10:30
tick 2026-11-30 12:00 => -
alarm b 0m => ok
tick 2026-12-07 12:00 => b@2026-12-07 10:30
rung => 2
alarm b 1m => ok
rung => 1
`)
}

// The first tick tells nothing, whatever was ahead of it; none goes back, or stays.
func TestTicks(t *testing.T) {
	wantSession(t, `
every a 2026-11-16 09:30 1h daily count 3 => ok
alarm a 0m => ok
tick 2026-11-17 09:30 => -
rung => 0
tick 2026-11-17 09:30 => ErrState
tick 2026-11-16 09:30 => ErrState
tick 1900-01-01 00:01 => ErrState
tick 2026-11-17 09:31 => -
tick 2028-10-11 20:12 => ErrRange
tick 2199-12-31 23:59 => ErrRange
tick 2028-10-11 20:11 => a@2026-11-18 09:30
rung => 1
tick 2028-10-11 20:11 => ErrState
`)
	// The last time of all.
	wantSession(t, `
put a 2199-12-31 23:59 0m => ok
alarm a 0m => ok
tick 2199-12-31 23:58 => -
next a 2199-12-31 23:58 => 2199-12-31 23:59
tick 2199-12-31 23:59 => a@2199-12-31 23:59
rung => 1
tick 2199-12-31 23:59 => ErrState
next a 2199-12-31 23:59 => ErrNone
`)
	// And the first one.
	wantSession(t, `
put a 1900-01-01 00:02 0m => ok
alarm a -1m => ok
alarm a 0m => ok
tick 1900-01-01 00:01 => -
tick 1900-01-01 00:02 => a@1900-01-01 00:02
`)
}

// Next is above the time, and no more than 500000 minutes.
func TestNext(t *testing.T) {
	wantSession(t, `
put a 2026-11-16 09:30 1h => ok
next a 2025-12-04 04:10 => 2026-11-16 09:30
next a 2025-12-04 04:09 => ErrNone
next a 2026-11-16 09:29 => 2026-11-16 09:30
next a 2026-11-16 09:30 => ErrNone
next a 1900-01-01 00:01 => ErrNone
next a 2199-12-31 23:59 => ErrNone
next b 2026-11-16 09:29 => ErrNone
drop a => ok
next a 2026-11-16 09:29 => ErrNone
put a 2199-12-31 23:00 1h => ok
next a 2199-12-31 22:59 => ErrNone
put a 2199-12-31 22:59 1h => ok
next a 2199-12-31 22:58 => 2199-12-31 22:59
`)
}

// What rings is no matter of a next, nor of what time it is, and the other way.
func TestNextTellsOnly(t *testing.T) {
	wantSession(t, `
every a 2026-11-16 09:30 1h daily => ok
alarm a 0m => ok
tick 2026-11-16 09:00 => -
next a 2026-12-24 00:00 => 2026-12-24 09:30
day 2026-12-24 00:00 => 4 2026 52
add 2026-12-24 00:00 1d => 2026-12-25 00:00
tick 2026-11-17 09:00 => a@2026-11-16 09:30
next a 2026-11-16 00:00 => 2026-11-16 09:30
tick 2026-11-17 10:00 => a@2026-11-17 09:30
rung => 2
rung => 2
`)
}

// names that are told in order, so many.
func names(many int) []string {
	var list []string
	for i := range many {
		list = append(list, "e"+string(rune('a'+i)))
	}
	return list
}

// There are at most 20 events; one that is put anew is no more of them.
func TestHowManyEvents(t *testing.T) {
	var s told
	add := func(line, answer string) { s.lines, s.answers = append(s.lines, line), append(s.answers, answer) }
	for i, name := range names(20) {
		add([]string{"put " + name + " 2026-11-16 09:30 1h", "every " + name + " 2026-11-16 09:30 1h daily"}[i%2], "ok")
	}
	add("put f 2026-11-16 09:30 1h", "ErrFull")
	add("every f 2026-11-16 09:30 1h daily", "ErrFull")
	add("alarm f 0m", "ErrNone")
	add("drop f", "ErrNone")
	add("next f 2026-11-16 09:00", "ErrNone")
	add("put ec 2026-11-16 09:40 1h", "ok")
	add("every ea 2026-11-16 09:40 1h weekly", "ok")
	add("alarm et 0m", "ok")
	add("next ec 2026-11-16 09:00", "2026-11-16 09:40")
	add("drop ed", "ok")
	add("put f 2026-11-16 09:30 1h", "ok")
	add("put g 2026-11-16 09:30 1h", "ErrFull")
	hold(t, s)
}

// ringsOf an event at 09:30 of each day from 2026-11-01 on, as a tick tells them: so many.
func ringsOf(t *testing.T, name string, many int) string {
	t.Helper()
	var list []string
	for _, day := range daysFrom(t, "2026-11-01", many) {
		list = append(list, name+"@"+day+" 09:30")
	}
	return strings.Join(list, ",")
}

// At most 400 have rung: a tick that would tell more tells none of them, and it is as late as it was.
func TestHowManyRings(t *testing.T) {
	rings := ringsOf(t, "a", 401)
	most := rings[:strings.LastIndex(rings, ",")]
	days := daysFrom(t, "2026-11-01", 402)
	hold(t, told{
		lines: []string{
			"every a 2026-11-01 09:30 1h daily", "alarm a 0m", "tick 2026-11-01 00:00", "tick " + days[400] + " 09:30", "rung", "tick " + days[400] + " 09:29", "rung",
			"tick " + days[400] + " 09:30", "rung", "drop a", "rung", "tick " + days[401] + " 09:30", "rung",
		},
		answers: []string{"ok", "ok", "-", "ErrFull", "0", most, "400", "ErrFull", "400", "ok", "0", "-", "0"},
	})
	// Of two events, each has few enough.
	hold(t, told{
		lines: []string{
			"every a 2026-11-01 09:30 1h daily count 200", "alarm a 0m", "every b 2026-11-01 09:30 1h daily", "alarm b 0m", "tick 2026-11-01 00:00",
			"tick " + days[200] + " 09:30", "tick " + days[199] + " 09:29", "rung", "tick " + days[199] + " 09:30", "rung", "tick " + days[200] + " 09:30", "rung",
		},
		answers: []string{
			"ok", "ok", "ok", "ok", "-",
			"ErrFull", both(t, 199), "398", "a@" + days[199] + " 09:30,b@" + days[199] + " 09:30", "400", "ErrFull", "400",
		},
	})
}

// both a and b ring on each day, so many.
func both(t *testing.T, many int) string {
	t.Helper()
	var list []string
	for _, day := range daysFrom(t, "2026-11-01", many) {
		list = append(list, "a@"+day+" 09:30", "b@"+day+" 09:30")
	}
	return strings.Join(list, ",")
}
