package run_test

import (
	"slices"
	"strings"
	"testing"

	"chimework/run"
)

// What cannot be read is bad, ahead of each error that the line would have by its name.
func TestBadComesFirst(t *testing.T) {
	for _, c := range []struct{ bad, named, told string }{
		{"day 2199-12-31 24:00", "day 2199-12-31 23:00", "ErrRange"},
		{"day 2199-12-31 23:00 ", "day 2199-12-31 23:00", "ErrRange"},
		{"add 2199-12-31 23:59 694d10h41m", "add 2199-12-31 23:59 694d10h40m", "ErrRange"},
		{"add 2199-12-31 23:59 1m 1m", "add 2199-12-31 23:59 1m", "ErrRange"},
		{"add 2199-12-31 23:60 1m", "add 2199-12-31 23:59 1m", "ErrRange"},
		{"put X 2026-11-31 09:30 1h", "put X 2026-11-30 09:30 1h", "ErrSyntax"},
		{"put X 2026-11-30 09:30 1", "put X 2026-11-30 09:30 -1h", "ErrSyntax"},
		{"put a 2026-11-30 09:30 -695d", "put a 2026-11-30 09:30 -694d", "ErrRange"},
		{"put  2026-11-30 09:30 1h ", "put  2026-11-30 09:30 1h", "ErrSyntax"},
		{"every X 2026-11-31 09:30 1h daily", "every X 2026-11-30 09:30 1h daily", "ErrSyntax"},
		{"every X 2026-11-30 09:30 1x daily", "every X 2026-11-30 09:30 1h daily", "ErrSyntax"},
		{"every X 2026-11-30 09:30 1h daily every 51", "every X 2026-11-30 09:30 1h daily every 50", "ErrSyntax"},
		{"every a 2026-11-30 09:30 -1h weekly days 1", "every a 2026-11-30 09:30 -1h monthly days 1", "ErrRange"},
		{"alarm a 695d", "alarm a 694d", "ErrNone"},
		{"alarm a x", "alarm a 1h", "ErrNone"},
		{"alarm  x", "alarm  1h", "ErrNone"},
		{"drop a b", "drop a", "ErrNone"},
		{"drop a ", "drop ", "ErrNone"},
		{"next a 1900-01-01 00:00", "next a 1900-01-01 00:01", "ErrNone"},
		{"next a 2026-11-30 09:30 ", "next a 2026-11-30 09:30", "ErrNone"},
		{"leaf 2200 01", "leaf 2200 1", "ErrRange"},
		{"leaf 02200 1", "leaf 2200 1", "ErrRange"},
		{"leaf 2026 1000000000", "leaf 2026 100000000", "ErrRange"},
		{"leaf 2026 13 13", "leaf 2026 13", "ErrRange"},
	} {
		wantAll(t, "bad", c.bad)
		wantAll(t, c.told, c.named)
	}
	wantSession(t, `
tick 2026-11-16 09:30 => -
tick 2026-11-16 09:30 => ErrState
tick 2026-11-16 09:3 => bad
tick 2026-11-15 09:60 => bad
tick 2026-11-15 09:59 => ErrState
tick 2026-11-15 09:30  => bad
tick 2199-12-31 24:59 => bad
tick 2199-12-31 23:59 => ErrRange
`)
}

// Of an alarm ErrNone comes ahead of what Put finds fault with, and of that ErrFull ahead of the Offset.
func TestWhichErrorOfAnAlarm(t *testing.T) {
	wantSession(t, `
alarm a 695d => bad
alarm a 694d => ErrNone
alarm a 1h => ErrNone
put a 2026-11-16 09:30 1h => ok
alarm a 695d => bad
alarm a 694d => ErrRange
alarm b 694d => ErrNone
alarm a 0m => ok
alarm a 0m => ok
alarm a 0m => ok
alarm a 694d => ErrRange
alarm a -69d10h41m => ErrRange
alarm a 0m => ok
alarm a 0m => ErrFull
alarm a 694d => ErrFull
alarm a 695d => bad
alarm b 0m => ErrNone
put a 2026-11-16 09:30 1h => ok
alarm a 694d => ErrRange
alarm a 0m => ok
`)
}

// Of what Put finds fault with, the name comes first, then the Length, then that there are too many.
func TestWhichErrorOfAPut(t *testing.T) {
	wantAll(t, "ErrSyntax", "put X 2026-11-16 09:30 -1h", "put X 2026-11-16 09:30 1h", "every X 2026-11-16 09:30 -1h daily", "put  2026-11-16 09:30 694d", "every abcdefghi 2026-11-16 09:30 694d daily")
	wantAll(t, "ErrRange", "put a 2026-11-16 09:30 -1h", "every a 2026-11-16 09:30 -1h daily", "put a 2026-11-16 09:30 694d", "every a 2026-11-16 09:30 69d10h41m daily count 1")
	var s told
	add := func(line, answer string) { s.lines, s.answers = append(s.lines, line), append(s.answers, answer) }
	for _, name := range names(20) {
		add("put "+name+" 2026-11-16 09:30 1h", "ok")
	}
	for _, name := range []string{"f", "X", "", "ea"} {
		syntax, full := "ErrRange", "ErrFull"
		if name == "X" || name == "" {
			syntax, full = "ErrSyntax", "ErrSyntax"
		} else if name == "ea" {
			full = "ok"
		}
		add("put "+name+" 2026-11-16 09:30 1h ", "bad")
		add("put "+name+" 2026-11-16 09:30 -1h", syntax)
		add("put "+name+" 2026-11-16 09:30 1h", full)
		add("every "+name+" 2026-11-16 09:30 1h days 1", "bad")
		add("every "+name+" 2026-11-16 09:30 70d daily", syntax)
		add("every "+name+" 2026-11-16 09:30 1h daily", full)
	}
	hold(t, s)
}

// A tick that is not above Now, one that is too far above it, and one that would tell too many rings.
func TestWhichErrorOfATick(t *testing.T) {
	wantSession(t, `
every a 2020-01-01 09:30 1h daily => ok
alarm a 0m => ok
tick 2026-11-16 09:30 => -
tick 2026-11-16 09:30 => ErrState
tick 1900-01-01 00:01 => ErrState
tick 2028-10-10 20:11 => ErrRange
tick 2199-12-31 23:59 => ErrRange
tick 2028-10-10 20:10 => ErrFull
tick 2027-12-22 09:30 => ErrFull
rung => 0
next a 2026-11-16 09:30 => 2026-11-17 09:30
tick 2026-11-17 09:30 => a@2026-11-17 09:30
rung => 1
tick 2027-12-22 09:30 => ErrFull
drop a => ok
tick 2027-12-22 09:30 => -
rung => 0
`)
}

// A session in which each row is taken; and lines that are not, wherever they stand in it.
const taken = `
put a 2026-11-16 09:30 1h => ok
alarm a -10m => ok
every b 2026-11-16 09:30 1h daily => ok
alarm b 0m => ok
tick 2026-11-16 09:00 => -
tick 2026-11-16 09:25 => a@2026-11-16 09:20
rung => 1
next b 2026-11-16 09:25 => 2026-11-16 09:30
alarm b 5m => ok
tick 2026-11-17 09:30 => b@2026-11-16 09:30,b@2026-11-16 09:35,b@2026-11-17 09:30
rung => 4
next a 2026-11-16 09:25 => 2026-11-16 09:30
drop b => ok
rung => 1
put a 2026-11-17 09:40 0m => ok
rung => 0
alarm a 0m => ok
tick 2026-11-18 00:00 => a@2026-11-17 09:40
rung => 1
next a 2026-11-17 09:00 => 2026-11-17 09:40
`

var refused = []struct{ line, answer string }{
	{"", "bad"}, {" ", "bad"}, {"fly", "bad"}, {"PUT a 2026-11-20 09:30 1h", "bad"},
	{"day 2026-11-16", "bad"}, {"day 2199-12-31 23:59", "ErrRange"}, {"add 2199-12-31 23:59 1m", "ErrRange"}, {"add 2026-11-16 09:30 1", "bad"},
	{"put a 2026-11-20 09:30 x", "bad"}, {"put a 2026-11-20 09:30", "bad"}, {"put a 2026-11-31 09:30 1h", "bad"}, {"put a 2026-11-20 09:30 -1h", "ErrRange"}, {"put b 2026-11-20 09:30 70d", "ErrRange"}, {"put A 2026-11-20 09:30 1h", "ErrSyntax"},
	{"every a 2026-11-20 09:30 1h", "bad"}, {"every a 2026-11-20 09:30 1h daily days 0", "bad"}, {"every b 2026-11-20 09:30 -1h daily", "ErrRange"}, {"every B 2026-11-20 09:30 1h daily", "ErrSyntax"},
	{"alarm a", "bad"}, {"alarm a x", "bad"}, {"alarm c 0m", "ErrNone"}, {"alarm  0m", "ErrNone"}, {"alarm c 70d", "ErrNone"},
	{"drop c", "ErrNone"}, {"drop a b", "bad"}, {"drop ", "ErrNone"}, {"drop", "bad"}, {"drop A", "ErrNone"},
	{"tick 2026-11-20", "bad"}, {"tick 2026-11-20 24:00", "bad"}, {"tick", "bad"}, {"rung a", "bad"}, {"rung ", "bad"},
	{"next c 2026-11-16 09:00", "ErrNone"}, {"next a 2026-11-20 09:00", "ErrNone"}, {"next a 2026-11-20", "bad"}, {"leaf 2026 13", "ErrRange"}, {"leaf 2026 -1", "bad"}, {"leaf", "bad"},
}

// What failed changes nothing that a later line tells.
func TestRefusedIsNothing(t *testing.T) {
	s := parse(t, taken)
	hold(t, s)
	with := func(place int, line, answer string) {
		t.Helper()
		wantRun(t, text(slices.Insert(slices.Clone(s.lines), place, line)...), text(slices.Insert(slices.Clone(s.answers), place, answer)...))
	}
	for place := range len(s.lines) + 1 {
		for _, r := range refused {
			with(place, r.line, r.answer)
		}
	}
	// Those that hang on how things stand: what it is now, and what a is.
	for place := 5; place < len(s.lines); place++ {
		with(place, "tick 2026-11-16 09:00", "ErrState")
		with(place, "tick 2199-12-31 23:59", "ErrRange")
	}
	for place := 1; place < len(s.lines)+1; place++ {
		with(place, "alarm a 70d", "ErrRange")
		with(place, "alarm a -70d", "ErrRange")
	}
	for place := 4; place <= 12; place++ {
		with(place, "alarm b 694d", "ErrRange")
		with(place, "put b 2026-11-20 09:30 -1m", "ErrRange")
		if place >= 5 {
			with(place, "tick 2028-10-01 00:00", "ErrFull")
		}
	}
}

// All of them together, again and again.
func TestRefusedTogether(t *testing.T) {
	s := parse(t, taken)
	for from := 0; from < len(refused); from += 3 {
		var lines, answers []string
		for i := range s.lines {
			for _, r := range refused[from:min(from+3, len(refused))] {
				lines, answers = append(lines, r.line), append(answers, r.answer)
			}
			lines, answers = append(lines, s.lines[i]), append(answers, s.answers[i])
		}
		if whole := text(lines...); len(whole) <= mostBytes {
			wantRun(t, whole, text(answers...))
		} else {
			t.Errorf("from %d: %d bytes", from, len(whole))
		}
	}
}

// What comes behind a line never turns what that line is answered: each beginning of a text, wherever it is cut.
func TestEachBeginning(t *testing.T) {
	for _, session := range []string{taken, `
put meet 2026-11-16 09:30 1h => ok
 => bad
alarm meet -10m => ok
fly => bad
leaf 2027 2 =>   1  2  3  4  5  6  7|  8  9 10 11 12 13 14| 15 16 17 18 19 20 21| 22 23 24 25 26 27 28
tick 2026-11-16 09:00 => -
 => bad
tick 2026-11-17 09:00 => meet@2026-11-16 09:20
rung => 1
drop meet => ok
rung => 0
`} {
		s := parse(t, session)
		whole := text(s.lines...)
		for cut := range len(whole) + 1 {
			many := strings.Count(whole[:cut], "\n")
			got := run.Run(whole[:cut])
			if want := text(s.answers[:many]...); !strings.HasPrefix(got, want) || strings.Count(got, "\n") != linesOf(whole[:cut]) || got != "" && !strings.HasSuffix(got, "\n") {
				t.Fatalf("Run(%q): got %q, want it to begin with %q", whole[:cut], got, want)
			}
		}
	}
}
