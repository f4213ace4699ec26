package run_test

import (
	"strings"
	"testing"

	"chimework/run"
)

// mostBytes of a text, written out, so that it is held against a number that the program does not tell.
const mostBytes = 3000

// arrow stands between a line of a session and what it is answered.
const arrow = " => "

// told of lines: each with what it is answered.
type told struct{ lines, answers []string }

// parse a session: a line, the arrow and the answer on each line of it.
func parse(t *testing.T, session string) told {
	t.Helper()
	var s told
	for _, step := range strings.Split(strings.Trim(session, "\n"), "\n") {
		line, answer, ok := strings.Cut(step, arrow)
		if !ok {
			t.Fatalf("%q has no arrow", step)
		}
		s.lines, s.answers = append(s.lines, line), append(s.answers, answer)
	}
	return s
}

// text of lines, each of which ends.
func text(lines ...string) string {
	if len(lines) == 0 {
		return ""
	}
	return strings.Join(lines, "\n") + "\n"
}

// wantRun asks for the answer to a text.
func wantRun(t *testing.T, asked, want string) {
	t.Helper()
	if got := run.Run(asked); got != want {
		t.Errorf("Run(%q):\ngot  %q\nwant %q", asked, got, want)
	}
}

// hold a session: its first lines, so many as there are, are answered as they stand there, whether the last one of them ends or not.
func hold(t *testing.T, s told) {
	t.Helper()
	for many := range len(s.lines) + 1 {
		want := text(s.answers[:many]...)
		whole := text(s.lines[:many]...)
		wantRun(t, whole, want)
		if many > 0 && s.lines[many-1] != "" {
			wantRun(t, strings.TrimSuffix(whole, "\n"), want)
		}
	}
}

func wantSession(t *testing.T, session string) {
	t.Helper()
	hold(t, parse(t, session))
}

// wantAll asks for one answer to each of some lines, each by itself, behind others, and all of them one behind the other.
func wantAll(t *testing.T, answer string, lines ...string) {
	t.Helper()
	for _, line := range lines {
		wantRun(t, text(line), text(answer))
		wantRun(t, text("put zz 2026-11-16 09:30 1h", "tick 2026-11-15 09:00", line, "rung"), text("ok", "-", answer, "0"))
	}
	var answers []string
	for range lines {
		answers = append(answers, answer)
	}
	if whole := text(lines...); len(whole) <= mostBytes {
		wantRun(t, whole, text(answers...))
	}
}

// Each row by itself.
func TestEachRow(t *testing.T) {
	for _, c := range []struct{ line, answer string }{
		{"day 2026-11-16 09:30", "1 2026 47"},
		{"day 2026-11-15 23:59", "7 2026 46"},
		{"add 2026-11-16 09:30 1d8h59m", "2026-11-17 18:29"},
		{"put a 2026-11-16 09:30 1h", "ok"},
		{"every a 2026-11-16 09:30 1h weekly on mo,th", "ok"},
		{"alarm a -10m", "ErrNone"},
		{"drop a", "ErrNone"},
		{"tick 2026-11-16 09:30", "-"},
		{"rung", "0"},
		{"next a 2026-11-16 09:30", "ErrNone"},
		{"leaf 2027 2", "  1  2  3  4  5  6  7|  8  9 10 11 12 13 14| 15 16 17 18 19 20 21| 22 23 24 25 26 27 28"},
	} {
		wantAll(t, c.answer, c.line)
	}
}

// Each row behind others.
func TestAllRows(t *testing.T) {
	wantSession(t, `
put meet 2026-11-16 09:30 1h => ok
alarm meet -10m => ok
every d 2026-11-16 09:25 5m daily => ok
alarm d 0m => ok
tick 2026-11-16 09:00 => -
rung => 0
tick 2026-11-16 09:25 => meet@2026-11-16 09:20,d@2026-11-16 09:25
rung => 2
next meet 2026-11-16 09:29 => 2026-11-16 09:30
next meet 2026-11-16 09:30 => ErrNone
next d 2026-11-16 09:30 => 2026-11-17 09:25
day 2026-11-16 09:25 => 1 2026 47
add 2026-11-16 09:25 1d => 2026-11-17 09:25
leaf 2026 2 =>                     1|  2  3  4  5  6  7  8|  9 10 11 12 13 14 15| 16 17 18 19 20 21 22| 23 24 25 26 27 28   
drop meet => ok
rung => 1
drop meet => ErrNone
alarm meet 0m => ErrNone
next meet 2026-11-16 09:29 => ErrNone
tick 2026-11-17 10:00 => d@2026-11-17 09:25
rung => 2
`)
}

func TestDay(t *testing.T) {
	wantSession(t, `
day 2026-11-16 00:00 => 1 2026 47
day 2026-11-17 23:59 => 2 2026 47
day 2026-11-18 12:00 => 3 2026 47
day 2026-11-19 12:00 => 4 2026 47
day 2026-11-20 12:00 => 5 2026 47
day 2026-11-21 12:00 => 6 2026 47
day 2026-11-22 12:00 => 7 2026 47
day 2026-11-23 00:00 => 1 2026 48
day 2025-12-28 12:00 => 7 2025 52
day 2025-12-29 00:00 => 1 2026 1
day 2026-01-01 00:00 => 4 2026 1
day 2027-01-01 00:00 => 5 2026 53
day 2027-01-03 23:59 => 7 2026 53
day 2027-01-04 00:00 => 1 2027 1
day 2000-02-29 00:00 => 2 2000 9
day 1900-01-01 00:01 => 1 1900 1
day 1900-12-31 00:00 => 1 1901 1
day 2199-12-29 23:59 => 7 2199 52
day 2199-12-30 00:00 => ErrRange
day 2199-12-31 23:59 => ErrRange
`)
}

func TestAdd(t *testing.T) {
	wantSession(t, `
add 2026-11-16 09:30 0m => 2026-11-16 09:30
add 2026-11-16 09:30 1m => 2026-11-16 09:31
add 2026-11-16 09:30 -1m => 2026-11-16 09:29
add 2026-11-16 23:59 1m => 2026-11-17 00:00
add 2026-11-16 00:00 -1m => 2026-11-15 23:59
add 2027-02-28 23:00 1h => 2027-03-01 00:00
add 2028-02-28 23:00 1h => 2028-02-29 00:00
add 2026-11-16 09:30 694d10h40m => 2028-10-10 20:10
add 2026-11-16 09:30 -694d10h40m => 2024-12-21 22:50
add 1900-01-01 00:01 694d10h40m => 1901-11-26 10:41
add 1900-01-01 00:01 0m => 1900-01-01 00:01
add 1900-01-01 00:01 -1m => ErrRange
add 1900-01-01 00:02 -1m => 1900-01-01 00:01
add 1901-11-26 10:41 -694d10h40m => 1900-01-01 00:01
add 1901-11-26 10:40 -694d10h40m => ErrRange
add 2199-12-31 23:59 0m => 2199-12-31 23:59
add 2199-12-31 23:59 1m => ErrRange
add 2199-12-31 23:58 1m => 2199-12-31 23:59
`)
}

// Leaves of four, five and six lines.
func TestLeaf(t *testing.T) {
	wantSession(t, `
leaf 2027 2 =>   1  2  3  4  5  6  7|  8  9 10 11 12 13 14| 15 16 17 18 19 20 21| 22 23 24 25 26 27 28
leaf 2026 9 =>      1  2  3  4  5  6|  7  8  9 10 11 12 13| 14 15 16 17 18 19 20| 21 22 23 24 25 26 27| 28 29 30            
leaf 2026 11 =>                     1|  2  3  4  5  6  7  8|  9 10 11 12 13 14 15| 16 17 18 19 20 21 22| 23 24 25 26 27 28 29| 30                  
leaf 2026 8 =>                  1  2|  3  4  5  6  7  8  9| 10 11 12 13 14 15 16| 17 18 19 20 21 22 23| 24 25 26 27 28 29 30| 31                  
leaf 1900 1 =>   1  2  3  4  5  6  7|  8  9 10 11 12 13 14| 15 16 17 18 19 20 21| 22 23 24 25 26 27 28| 29 30 31            
leaf 2199 12 =>                     1|  2  3  4  5  6  7  8|  9 10 11 12 13 14 15| 16 17 18 19 20 21 22| 23 24 25 26 27 28 29| 30 31               
leaf 2100 2 =>   1  2  3  4  5  6  7|  8  9 10 11 12 13 14| 15 16 17 18 19 20 21| 22 23 24 25 26 27 28
leaf 2024 2 =>            1  2  3  4|  5  6  7  8  9 10 11| 12 13 14 15 16 17 18| 19 20 21 22 23 24 25| 26 27 28 29         
`)
}
