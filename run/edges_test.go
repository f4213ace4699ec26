package run_test

import (
	"slices"
	"strings"
	"testing"
	"time"

	"chimework/run"
)

// daysFrom one on, as they are written, by the library's calendar.
func daysFrom(t *testing.T, first string, many int) []string {
	t.Helper()
	begin, err := time.Parse(time.DateOnly, first)
	if err != nil {
		t.Fatal(err)
	}
	var list []string
	for i := range many {
		list = append(list, begin.AddDate(0, 0, i).Format(time.DateOnly))
	}
	return list
}

// Each line is answered by one: a last piece that is empty is none.
func TestLines(t *testing.T) {
	for _, c := range []struct{ text, answer string }{
		{"", ""},
		{"\n", "bad\n"},
		{"\n\n", "bad\nbad\n"},
		{"\n\n\n\n", "bad\nbad\nbad\nbad\n"},
		{"rung", "0\n"},
		{"rung\n", "0\n"},
		{"rung\n\n", "0\nbad\n"},
		{"\nrung", "bad\n0\n"},
		{"\n\nrung\n", "bad\nbad\n0\n"},
		{"rung\nrung", "0\n0\n"},
		{"rung\n\nrung\n", "0\nbad\n0\n"},
		{"rung\n\n\n\nrung", "0\nbad\nbad\nbad\n0\n"},
		{" ", "bad\n"},
		{" \n", "bad\n"},
		{"x", "bad\n"},
		{"rung\r\nrung\r\n", "bad\nbad\n"},
		{"rung\rrung", "bad\n"},
		{"rung\x00rung\n", "bad\n"},
	} {
		wantRun(t, c.text, c.answer)
	}
	for _, many := range []int{1, 2, 17, mostBytes - 1, mostBytes} {
		wantRun(t, strings.Repeat("\n", many), strings.Repeat("bad\n", many))
	}
}

// A text of 3000 bytes is answered, one of more is not, whatever is in it.
func TestHowLongATextMayBe(t *testing.T) {
	const much = "too long\n"
	for _, piece := range []string{"\n", "x", " ", "\x00", "\xff", "é", "rung\n", "rung\nrung\n\n", "drop aaaa\n", "tick 2026-11-16 09:30\n"} {
		whole := strings.Repeat(piece, mostBytes)
		for _, length := range []int{mostBytes + 1, mostBytes + 2, mostBytes * len(piece)} {
			if length > mostBytes {
				wantRun(t, whole[:min(length, len(whole))]+strings.Repeat("\n", max(0, length-len(whole))), much)
			}
		}
		wantRun(t, whole[:mostBytes-1]+"\n\n", much)
		wantRun(t, whole[:mostBytes]+"\n", much)
		for _, fits := range []string{whole[:mostBytes], whole[:mostBytes-1] + "\n", whole[:mostBytes-1], whole[:mostBytes-2] + "\n"} {
			if got := run.Run(fits); got == much || strings.Count(got, "\n") != linesOf(fits) {
				t.Errorf("Run of %d bytes of %q: got %q", len(fits), piece, got)
			}
		}
	}
	// The last line is as long as may be.
	begin := "rung\nput a 2026-11-16 09:30 1h\n"
	line := "drop " + strings.Repeat("a", mostBytes-len(begin)-len("drop "))
	wantRun(t, begin+line, "0\nok\nErrNone\n")
	wantRun(t, begin+line[:len(line)-1]+"\n", "0\nok\nErrNone\n")
	wantRun(t, begin+line+"\n", much)
	wantRun(t, begin+line+"a", much)
	wantRun(t, strings.Repeat("rung\n", mostBytes/5), strings.Repeat("0\n", mostBytes/5))
	wantRun(t, strings.Repeat("rung\n", mostBytes/5)+"\n", much)
	wantRun(t, strings.Repeat("rung\n", 1<<18), much)
}

// linesOf a text: one that ends is counted by its end, and a last one that does not end is one, too.
func linesOf(s string) int {
	many := strings.Count(s, "\n")
	if s != "" && !strings.HasSuffix(s, "\n") {
		many++
	}
	return many
}

// NAME may be empty: then it is one that no event has.
func TestEmptyNames(t *testing.T) {
	wantSession(t, `
put  2026-11-16 09:30 1h => ErrSyntax
every  2026-11-16 09:30 1h daily => ErrSyntax
alarm  1h => ErrNone
drop  => ErrNone
next  2026-11-16 09:30 => ErrNone
put a 2026-11-16 09:30 1h => ok
alarm  1h => ErrNone
drop  => ErrNone
next  2026-11-16 09:00 => ErrNone
next a 2026-11-16 09:00 => 2026-11-16 09:30
put  2026-11-16 09:30 => bad
every  2026-11-16 09:30 1h => bad
alarm  => bad
drop => bad
next  => bad
`)
}

// A NAME has 1 to 8 letters a to z; of one that is no event's own nothing is said but that there is none.
func TestNames(t *testing.T) {
	for _, name := range []string{"a", "z", "ab", "abcdefgh", "zzzzzzzz", "put", "rung", "day"} {
		hold(t, told{
			lines:   []string{"put " + name + " 2026-11-16 09:30 1h", "alarm " + name + " 0m", "tick 2026-11-16 09:00", "tick 2026-11-16 10:00", "next " + name + " 2026-11-16 09:00", "every " + name + " 2026-11-17 09:30 1h daily", "drop " + name, "drop " + name},
			answers: []string{"ok", "ok", "-", name + "@2026-11-16 09:30", "2026-11-16 09:30", "ok", "ok", "ErrNone"},
		})
	}
	for _, name := range []string{
		"", "abcdefghi", "zzzzzzzzz", strings.Repeat("a", 900), "A", "aB", "Abc", "a1", "1", "0", "-", "a-b", "a_b", "a.b", "a,b", "a|b", "a@b",
		"a\t", "\ta", "a\r", "\r", "\x00", "a\x00b", "\x7f", "\x80", "\xff", "a\xffb", "é", "ä", "日", "`", "{", "a{", "@",
	} {
		hold(t, told{
			lines:   []string{"put " + name + " 2026-11-16 09:30 1h", "every " + name + " 2026-11-16 09:30 1h daily"},
			answers: []string{"ErrSyntax", "ErrSyntax"},
		})
		hold(t, told{
			lines:   []string{"put a 2026-11-16 09:30 1h", "alarm " + name + " 1h", "drop " + name, "next " + name + " 2026-11-16 09:00", "drop a"},
			answers: []string{"ok", "ErrNone", "ErrNone", "ErrNone", "ok"},
		})
	}
}

// rows are lines of each row that are taken, or answered by what they ask for.
var rows = []string{
	"day 2026-11-16 09:30",
	"add 2026-11-16 09:30 1h",
	"put b 2026-11-16 09:30 1h",
	"every b 2026-11-16 09:30 1h daily",
	"alarm a 1h",
	"drop a",
	"tick 2026-11-16 09:30",
	"rung",
	"next a 2026-11-16 09:00",
	"leaf 2026 11",
}

// A blank ahead of a line, at its end, or two between words; and other bytes in place of a blank.
func TestBlanks(t *testing.T) {
	for _, row := range rows {
		wantAll(t, "bad", " "+row, "  "+row, row+" ", row+"  ", " "+row+" ", "\t"+row, "\r"+row, "\x00"+row)
		for i := range len(row) {
			if row[i] != ' ' {
				continue
			}
			for _, other := range []string{"", "\t", "\r", "\x00", "\x0b", "\xa0", "\u00a0", "_", "  ", "   ", "\t\t"} {
				wantAll(t, "bad", row[:i]+other+row[i+1:])
			}
		}
	}
	// Two blanks may stand where a NAME is empty, and no more.
	wantAll(t, "ErrNone", "alarm  1h", "next  2026-11-16 09:00", "drop ")
	wantAll(t, "ErrSyntax", "put  2026-11-16 09:30 1h", "every  2026-11-16 09:30 1h daily")
	wantAll(t, "bad", "alarm   1h", "next   2026-11-16 09:00", "drop  ", "put   2026-11-16 09:30 1h", "every   2026-11-16 09:30 1h daily", "put  2026-11-16 09:30  1h", "every  2026-11-16 09:30 1h  daily")
}

// Bytes that are no blank, behind a line, belong to its last word: that is read no more, unless it is a NAME.
func TestBytesBehindALine(t *testing.T) {
	for _, behind := range []string{"\t", "\r", "\x00", "\x0b", "\x7f", "\x80", "\xff", "é", ".", ";"} {
		for _, row := range rows {
			if strings.HasPrefix(row, "drop") {
				wantAll(t, "ErrNone", row+behind)
			} else {
				wantAll(t, "bad", row+behind)
			}
		}
	}
}

// Words of a line too few, and too many.
func TestWords(t *testing.T) {
	for _, row := range rows {
		words := strings.Split(row, " ")
		for many := range words {
			short := strings.Join(words[:many], " ")
			// The words of a RULE may be fewer; none of these is.
			wantAll(t, "bad", short)
			if short != "drop" {
				wantAll(t, "bad", short+" ")
			}
		}
		for _, word := range []string{"a", "0", "1h", "09:30", "2026-11-16", "2026-11-16 09:30", "daily", "weekly", "rung", "-", ""} {
			wantAll(t, "bad", row+" "+word)
		}
		for i := range words {
			if less := strings.Join(slices.Delete(slices.Clone(words), i, i+1), " "); less != row {
				wantAll(t, "bad", less)
			}
		}
	}
	wantAll(t, "bad", "drop a b", "drop a ", "drop  a", "drop  ", "alarm a", "alarm a ", "alarm a 1h 1h", "alarm a  1h", "leaf 2026", "leaf", "leaf ", "leaf  ", "leaf 2026 ", "leaf  11", "leaf 2026 11 1", "leaf 2026  11", "rung 0")
}

// `rung` has nothing behind it.
func TestRungAlone(t *testing.T) {
	wantAll(t, "0", "rung")
	wantAll(t, "bad", "rung ", "rung  ", "rung a", "rung 0", "rungs", "rung\t", "rung\r", "rung\x00", "rung\xff", "rung,", "rung rung", " rung", "run", "runG")
}

// Words that are none of the table, and those that are, in capital letters.
func TestWordsThatAreNone(t *testing.T) {
	wantAll(t, "bad", "", "fly", "help", "d", "da", "days", "dayy", "adds", "puts", "ever", "everyday", "alarms", "dropped", "ticks", "nex", "leafs", "leave", "done a", "snooze a 5m", "now", "names", "too long", "ok", "bad", "-", "0", "# day", "é", "\xff", "\x00", "\t", "2026-11-16 09:30")
	for _, row := range rows {
		word, rest, _ := strings.Cut(row, " ")
		rest = strings.TrimPrefix(row, word)
		wantAll(t, "bad", strings.ToUpper(word)+rest, strings.ToUpper(word[:1])+word[1:]+rest, word[:len(word)-1]+rest, word[1:]+rest, word+"x"+rest, "x"+word+rest, word+"s"+rest)
	}
}

// placed lays what is asked of into each row that has a TIME, or a SPAN.
func placed(rows []string, what string) []string {
	var list []string
	for _, row := range rows {
		list = append(list, strings.Replace(row, "$", what, 1))
	}
	return list
}

var (
	timeRows = []string{"day $", "add $ 0m", "put b $ 1h", "every b $ 1h daily", "tick $", "next a $"}
	spanRows = []string{"add 2026-11-16 09:30 $", "put b 2026-11-16 09:30 $", "every b 2026-11-16 09:30 $ daily", "alarm a $"}
)

// A TIME is just as chapter 2 reads it.
func TestTimes(t *testing.T) {
	for _, wrong := range []string{
		"", " ", "2026-11-16", "2026-11-16 ", "2026-11-16 09:3", "2026-11-16 9:30", "2026-11-16 09:300", "2026-11-16 09:30:00", "26-11-16 09:30", "02026-11-16 09:30", "2026-1-16 09:30", "2026-11-6 09:30",
		"2026-11-16T09:30", "2026-11-16\t09:30", "2026-11-16  9:30", "2026-11-16  09:30", " 2026-11-16 09:30", "2026/11/16 09:30", "2026-11-16 09.30", "2026-11-16 0930", "202a-11-16 09:30", "+026-11-16 09:30", "-026-11-16 09:30", "2026-11-16 +9:30", "2026-11-16 -9:30",
		"2026-02-29 09:30", "2026-11-31 09:30", "2026-11-00 09:30", "2026-13-16 09:30", "2026-00-16 09:30", "2100-02-29 09:30", "2026-11-95 22:49",
		"2026-11-16 24:00", "2026-11-16 09:60", "2026-11-16 99:99", "1899-12-31 23:59", "2200-01-01 00:00", "0000-00-00 00:00", "9999-12-31 23:59", "1900-01-01 00:00",
		"2026-11-16 09:3\x00", "2026-11-16 09:3\xff", "\xff026-11-16 09:30", "2026-11-1é 9:30", "２026-11-16 09:30", "now", "-",
	} {
		wantAll(t, "bad", placed(timeRows, wrong)...)
	}
	for _, c := range []struct{ at, told string }{
		{"1900-01-01 00:01", "1 1900 1"}, {"2199-12-29 23:59", "7 2199 52"}, {"2199-12-31 23:59", "ErrRange"}, {"2028-02-29 00:00", "2 2028 9"}, {"2026-11-16 00:00", "1 2026 47"}, {"2026-11-16 23:59", "1 2026 47"},
	} {
		hold(t, told{lines: placed(timeRows, c.at), answers: []string{c.told, c.at, "ok", "ok", "-", "ErrNone"}})
	}
}

// A SPAN is just as chapter 2 reads it.
func TestSpans(t *testing.T) {
	for _, wrong := range []string{
		"", " ", "0", "m", "x", "1", "-", "-1", "00m", "01m", "0h", "0d", "-0m", "+1m", "+0m", "1h0m", "0h1m", "0d1m", "60m", "24h", "1h60m", "1m1h", "1h1d", "1h1h", "1h 1m", "--1m", "1h-1m", "-1h-1m", "1.5h", "1H", "1s", "1w", "1 h", "h1",
		"694d10h41m", "-694d10h41m", "695d", "-695d", "999999m", "1000000m", "1000001m", "999999999d", "-999999999d", "9999999999d", "1000000000d", "99999999999999999999d", "1h\t", "\t1h", "1h\r", "1h\x00", "1h\xff", "１h", "1é",
	} {
		wantAll(t, "bad", placed(spanRows, wrong)...)
	}
	wantSession(t, `
put a 2026-11-16 09:30 0m => ok
put a 2026-11-16 09:30 1m => ok
put a 2026-11-16 09:30 69d10h40m => ok
put a 2026-11-16 09:30 69d10h41m => ErrRange
put a 2026-11-16 09:30 694d10h40m => ErrRange
put a 2026-11-16 09:30 694d10h41m => bad
put a 2026-11-16 09:30 -1m => ErrRange
put a 2026-11-16 09:30 -694d10h40m => ErrRange
every a 2026-11-16 09:30 0m daily => ok
every a 2026-11-16 09:30 69d10h40m daily => ok
every a 2026-11-16 09:30 69d10h41m daily => ErrRange
every a 2026-11-16 09:30 694d10h40m daily => ErrRange
every a 2026-11-16 09:30 694d10h41m daily => bad
every a 2026-11-16 09:30 -1m daily => ErrRange
alarm a 0m => ok
alarm a -69d10h40m => ok
alarm a 69d10h40m => ok
alarm a 69d10h41m => ErrRange
alarm a 694d10h40m => ErrRange
alarm a -694d10h40m => ErrRange
alarm a 694d10h41m => bad
alarm a 23h59m => ok
`)
}

// A RULE is just as chapter 4 reads it, up to the end of the line; whatever that finds fault with is bad.
func TestRules(t *testing.T) {
	const row = "every a 2026-11-16 09:30 1h "
	for _, wrong := range []string{
		"", " ", "x", "hourly", "Daily", "DAILY", "dail", "dailyy", " daily", "daily ", "daily  every 2", "daily every 2 ", "daily every", "daily every x", "daily every02", "daily every 02", "daily every 1", "daily count 0", "daily every 2 every 3", "daily count 2 every 2",
		"daily\tevery 2", "daily\r", "daily\x00", "daily\xff", "\xff", "until 2026-12-31", "daily until", "daily until 2026-12-3", "daily until 2026-13-31", "daily until 2026-02-29", "daily until 2026-12-31 09:30", "weekly on", "weekly on xx", "weekly on mo, tu", "weekly on mo,,tu", "weekly on ,mo", "weekly on 0mo", "weekly on Mo",
		// Those that are well written, but no rules.
		"daily every 0", "daily every 51", "daily every -1", "daily count 201", "daily count -1", "daily count 2 until 2026-12-31", "daily months 0", "daily months 13", "daily days 0", "daily days 32", "daily days -32", "weekly on th,mo", "weekly on mo,mo", "daily months 2,1", "daily days 1,1", "weekly on 1mo", "daily on 1mo", "monthly on 6mo", "monthly on -6mo", "weekly days 1", "yearly days 1", "yearly on 1mo", "daily pick 1", "monthly pick 1", "monthly days 1 pick 0", "monthly days 1 pick 32", "monthly days 1,2 pick 2,1",
	} {
		wantAll(t, "bad", row+wrong)
		// It is none, though that event is there, and that one stays.
		hold(t, told{lines: []string{row + "weekly", row + wrong, "next a 2026-11-16 09:30"}, answers: []string{"ok", "bad", "2026-11-23 09:30"}})
	}
	for _, c := range []struct{ rule, next string }{
		{"daily", "2026-11-17 09:30"},
		{"daily every 50", "2027-01-05 09:30"},
		{"daily count 1", "ErrNone"},
		{"daily count 200", "2026-11-17 09:30"},
		{"daily until 2026-11-16", "ErrNone"},
		{"daily until 2199-12-31", "2026-11-17 09:30"},
		{"weekly", "2026-11-23 09:30"},
		{"weekly on mo,tu,we,th,fr,sa,su", "2026-11-17 09:30"},
		{"weekly every 2 on tu", "2026-11-17 09:30"},
		{"weekly every 2 on mo", "2026-11-30 09:30"},
		{"monthly", "2026-12-16 09:30"},
		{"monthly days 31", "2026-12-31 09:30"},
		{"monthly days -1", "2026-11-30 09:30"},
		{"monthly on 1mo", "2026-12-07 09:30"},
		{"monthly on mo,tu,we,th,fr pick -1,1", "2026-11-30 09:30"},
		{"monthly every 2 count 3 months 1,3,11,12 days 1,2,16,17,18 on mo,tu,we,th,fr pick -1,1,2", "2026-11-18 09:30"},
		{"yearly", "ErrNone"}, // 365 days are too far
		{"yearly months 6 days 1", "2027-06-01 09:30"},
		{"yearly months 1,2 on 1fr", "2027-01-01 09:30"},
	} {
		hold(t, told{lines: []string{row + c.rule, "next a 2026-11-16 09:29", "next a 2026-11-16 09:30"}, answers: []string{"ok", "2026-11-16 09:30", c.next}})
	}
	// It goes until a day ahead of its beginning, so there is none.
	wantSession(t, `
every a 2026-11-16 09:30 1h daily until 2026-11-15 => ok
next a 2026-11-16 09:29 => ErrNone
drop a => ok
`)
}

// A number is at most nine digits, without a sign and a needless 0.
func TestNumbers(t *testing.T) {
	for _, wrong := range []string{
		"", " ", "00", "01", "02026", "002026", "000000000", "0000000001", "1000000000", "2026000000", "9999999999", "99999999999999999999", strings.Repeat("9", 400),
		"-1", "-0", "-11", "+1", "+0", "+2026", "--1", "-", "+", "-999999999", "1.0", "1,0", "1e3", "0x1", "0b1", "0o7", "1_0", "a", "1a", "a1", "１", "²", "1\t", "\t1", "1\r", "1\x00", "\x001", "1\xff", "é",
	} {
		wantAll(t, "bad", "leaf 2026 "+wrong, "leaf "+wrong+" 11", "leaf "+wrong+" "+wrong)
	}
	for _, none := range []string{"0", "1", "9", "12", "1899", "2200", "9999", "99999", "100000000", "999999999"} {
		wantAll(t, "ErrRange", "leaf "+none+" 1", "leaf "+none+" 12", "leaf "+none+" 13", "leaf "+none+" 0", "leaf "+none+" 999999999")
	}
	for _, none := range []string{"0", "13", "14", "24", "99", "2026", "100000000", "999999999"} {
		wantAll(t, "ErrRange", "leaf 1900 "+none, "leaf 2026 "+none, "leaf 2199 "+none, "leaf 2200 "+none)
	}
	// Turned about they are none.
	wantAll(t, "ErrRange", "leaf 11 2026")
}
