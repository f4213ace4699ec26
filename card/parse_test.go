package card_test

import (
	"reflect"
	"regexp"
	"slices"
	"strings"
	"testing"

	"chimework/api"
	"chimework/card"
)

// kindLines are lines of each kind, in K1's order.
var kindLines = []string{
	"NAME:meet\n",
	"TEXT:x\n",
	"START:2026-11-16 09:30\n",
	"LENGTH:1h\n",
	"RULE:weekly\n",
	"MORE:2026-11-17 09:30\n",
	"NOT:2026-11-18 09:30\n",
	"MOVE:2026-11-19 09:30>-\n",
	"ALARM:-10m s 0 0m\n",
}

// must is the shortest card, in three lines.
const must = "NAME:meet\nSTART:2026-11-16 09:30\nLENGTH:1h\n"

func wantNotRead(t *testing.T, text string, number int, want api.Errno) {
	t.Helper()
	if got, n, err := card.Parse(text); !reflect.DeepEqual(got, api.Event{}) || n != number || !isTold(err, want) {
		t.Errorf("Parse(%q): got %+v, %d, %v, want none, %d, %v", text, got, n, err, number, want)
	}
}

// wantFault asks for ErrSyntax at a line.
func wantFault(t *testing.T, text string, number int) {
	t.Helper()
	wantNotRead(t, text, number, api.ErrSyntax)
}

func TestShortTexts(t *testing.T) {
	for _, text := range []string{
		"", "\n", " ", " \n", "  \n", "\n\n", "\n\n\n", "\n ", "\n \n", " \n ", " \n \n", "a", "a\n", ":", ":\n", "\x00", "\xff\n", "NAME", "NAME\n", "NAME:", "NAME:meet", "NAME:meet\n ", "NAME:meet\n \n", "NAME:meet\n x\n",
	} {
		wantFault(t, text, 0)
	}
	for _, text := range []string{"NAME:\n", "NAME:meet\n", "NAME:meet\n\n", "NAME:meet\nx", "NAME:meet\n\n\n", "NAME:\n:\n", "NAME:meet\nSTART:2026-11-16 09:30"} {
		wantFault(t, text, 1)
	}
}

// Every beginning of a text is told, byte by byte.
func TestBeginnings(t *testing.T) {
	text := strings.Join(kindLines, "")
	for cut := range len(text) {
		// What does not end is the last line; what ends is whole from LENGTH on.
		number := strings.Count(text[:cut], "\n")
		if number >= 4 && text[cut-1] == '\n' {
			if _, n, err := card.Parse(text[:cut]); n != 0 || err != nil {
				t.Errorf("Parse(%q): got %d, %v", text[:cut], n, err)
			}
			continue
		}
		wantFault(t, text[:cut], number)
	}
}

func TestLastLineThatDoesNotEnd(t *testing.T) {
	crowdedText := strings.Join(crowdedLines, "\n")
	wantFault(t, crowdedText, 16)
	wantRead(t, crowdedText+"\n", crowded())
	wantFault(t, strings.TrimSuffix(must, "\n"), 2)
	wantFault(t, must+"TEXT:x", 3)
	wantFault(t, must+"ALARM:0m s 0 0m", 3)
	wantFault(t, must+"ALARM:0m s 0", 3)
	wantFault(t, must+"x\nALARM:0m s 0 0m", 3)
	wantFault(t, must+"ALARM:0m s 0 0m\nx", 4)
	// A piece that does not end belongs to a line all the same.
	long := "NAME:meet\nTEXT:" + counted(35) + "\n x"
	wantFault(t, long, 1)
	wantFault(t, long+"\n", 2)
	wantFault(t, long[:len(long)-1], 0)
	wantFault(t, must+"RULE:monthly every 2 count 10 months 1,2\n ,3", 3)
	wantFault(t, must+"RULE:monthly every 2 count 10 months 1,2\n ", 0)
}

func TestEmptyLines(t *testing.T) {
	text := strings.Join(kindLines, "")
	wantFault(t, "\n"+text, 0)
	wantFault(t, text+"\n", 9)
	wantFault(t, text+"\n\n", 9)
	ahead := ""
	for i, line := range kindLines {
		wantFault(t, ahead+"\n"+text[len(ahead):], i)
		ahead += line
	}
	wantFault(t, must+"\n", 3)
	// What goes on behind an empty line belongs to it, and no text is folded so.
	wantFault(t, must+"\n x\n", 0)
	wantFault(t, must+"\n \n", 0)
}

func TestPiecesThatAreNone(t *testing.T) {
	c := counted(100)
	text := func(pieces ...string) string {
		return "NAME:meet\n" + strings.Join(pieces, "\n") + "\nSTART:2026-11-16 09:30\nLENGTH:1h\n"
	}
	e := meet()
	e.Text = c[:36]
	wantRead(t, text("TEXT:"+c[:35], " "+c[35:36]), e)
	for _, wrong := range []string{
		text("TEXT:" + c[:36]),                // too long
		text("TEXT:"+c[:34], " "+c[34:36]),    // too short ahead
		text("TEXT:"+c[:36], " x"),            // too long ahead
		text("TEXT:"+c[:35], " "),             // nothing behind
		text("TEXT:"+c[:35], " x", " y"),      // too short between
		text("TEXT:"+c[:35], " "+c[:40]),      // too long behind
		text("TEXT:"+c[:35], " "+c[:39], " "), // nothing behind two
		text("TEXT:x", " y"),
		text("TEXT:x", " START:2026-11-16 09:30"),
		text("TEXT:", " x"),
		text("TEXT:" + c[:60]),         // not folded at all
		"NAME:" + c[:36] + "\n" + must, // too long, of another kind
		must + "RULE:monthly every 2 count 10 months 1,2,3\n",
		must + "ALARM:0m s 0 0m\n \n",
		must + "ALARM:0m s\n  0 0m\n",
		must + "ALARM:0m s\n  0 0m", // and does not end
	} {
		wantFault(t, wrong, 0)
		// They are told wherever else a line cannot stand: ahead of it, and behind it.
		wantFault(t, wrong+"x\n", 0)
		wantFault(t, wrong+"\n", 0)
		wantFault(t, "NAME:\nx\n"+wrong, 0)
		wantFault(t, must+"x\n"+wrong, 0)
		wantFault(t, "\n"+wrong, 0)
	}
	// Behind a fold, too, faults are told by whole lines.
	wantFault(t, text("TEXT:"+c[:35], " "+c[35:36])+"x\n", 4)
	wantFault(t, text("TEXT:"+c[:35], " "+c[:39], " "+c[39:42])+"x\n", 4)
	wantFault(t, text("TEXT:"+c[:35], " "+c[:39], " "+c[39:42], "x"), 2)
}

// A piece that begins with a blank belongs to the line ahead; first of all it is a line of its own.
func TestPiecesThatBeginWithABlank(t *testing.T) {
	wantFault(t, " "+must, 0)
	wantFault(t, " \n"+must, 0)
	wantFault(t, " x\n"+must, 0)
	wantFault(t, " NAME:meet\n"+must, 0)
	wantFault(t, must+" \n", 0)
	wantFault(t, must+" ", 0)
	wantFault(t, must+" x\n", 0)
	wantFault(t, must+" NOT:2026-11-18 09:30\n", 0)
	wantFault(t, must+kindLines[8]+" "+kindLines[8], 0)
	// No other byte makes a line go on.
	wantFault(t, must+"\tx\n", 3)
	wantFault(t, must+"\xa0x\n", 3)
	wantFault(t, must+"\r\n", 3)
	// Whole pieces of a line that could never stand there.
	first := " " + counted(39)
	wantFault(t, first+"\n x\n"+must, 0)
	wantFault(t, first+"\n"+must, 0)
}

func TestLinesThatAreNoPair(t *testing.T) {
	for _, line := range []string{"x", "NOT", "NOT 2026-11-18 09:30", "NOT;2026-11-18", ":", ":2026-11-18 09:30", "ABCDEFGHIJKLM:x", "NOT1:x", "\tNOT:2026-11-18 09:30", "NOT :2026-11-18 09:30", "\x00", "Ä:x"} {
		wantFault(t, line+"\n"+must, 0)
		wantFault(t, must+line+"\n", 3)
		wantFault(t, must+line, 3)
		wantFault(t, must+kindLines[4]+line+"\n"+kindLines[5], 4)
	}
}

func TestKeysThatAreNone(t *testing.T) {
	values := []string{"x", "", "2026-11-18 09:30", "1h", "daily", "0m s 0 0m", "2026-11-18 09:30>-"}
	for _, key := range []string{"X", "name", "Name", "not", "Not", "NOTE", "NO", "NAMES", "NAM", "ALARMS", "TEXTTEXTTEXT", "END", "UNTIL", "MOVED"} {
		for _, value := range values {
			line := key + ":" + value + "\n"
			wantFault(t, line, 0)
			wantFault(t, line+must, 0)
			wantFault(t, must+line, 3)
			wantFault(t, "NAME:meet\n"+line+"START:2026-11-16 09:30\nLENGTH:1h\n", 1)
		}
	}
	for i, line := range kindLines {
		key, value, _ := strings.Cut(line, ":")
		wantFault(t, strings.Join(kindLines[:i], "")+strings.ToLower(key)+":"+value+strings.Join(kindLines[i+1:], ""), i)
	}
}

// Told by patterns of letters, one a line: what the lines ahead may be, and what they must be in all.
var (
	mayBegin = regexp.MustCompile(`^(N(T?(S(L(R?M*O*V*A*)?)?)?)?)?$`)
	mayBeAll = regexp.MustCompile(`^NT?SLR?M*O*V*A*$`)
)

const kindLetters = "NTSLRMOVA"

// holdOrder of lines whose values can all be read.
func holdOrder(t *testing.T, letters string) {
	t.Helper()
	var text strings.Builder
	number := -1
	for i := range letters {
		text.WriteString(kindLines[strings.IndexByte(kindLetters, letters[i])])
		if number < 0 && !mayBegin.MatchString(letters[:i+1]) {
			number = i
		}
	}
	switch {
	case number >= 0:
		wantFault(t, text.String(), number)
	case !mayBeAll.MatchString(letters):
		wantFault(t, text.String(), len(letters))
	case strings.Contains(letters, "AAAAA"):
		wantNotRead(t, text.String(), 0, api.ErrFull)
	case strings.Contains(letters, "MM") || strings.Contains(letters, "OO") || strings.Contains(letters, "VV"):
		wantNotRead(t, text.String(), 0, api.ErrClash) // the same time twice
	default:
		got, n, err := card.Parse(text.String())
		if n != 0 || err != nil {
			t.Errorf("Parse(%q): got %d, %v", text.String(), n, err)
		}
		if again, err := card.Print(got); again != text.String() || err != nil {
			t.Errorf("Print of Parse(%q): got %q, %v", text.String(), again, err)
		}
	}
}

// Each choice of up to five lines, each in each place; and each choice of what may come behind what must.
func TestOrderOfLines(t *testing.T) {
	all, ends := []string{""}, []string{""}
	for range 5 {
		for _, letters := range all {
			holdOrder(t, letters)
		}
		for _, letters := range ends {
			holdOrder(t, "NSL"+letters)
			holdOrder(t, "NTSL"+letters)
			holdOrder(t, "NSLRMOVA"+letters)
		}
		all, ends = longer(all), longer(ends)
	}
	for _, letters := range all {
		holdOrder(t, letters)
	}
}

func longer(texts []string) []string {
	var list []string
	for _, text := range texts {
		for i := range kindLetters {
			list = append(list, text+kindLetters[i:i+1])
		}
	}
	return list
}

// Written out: each kind behind a later one, twice, and left out.
func TestOrderWrittenOut(t *testing.T) {
	text := func(letters string) string {
		text := ""
		for i := range letters {
			text += kindLines[strings.IndexByte(kindLetters, letters[i])]
		}
		return text
	}
	for letters, number := range map[string]int{
		"NTSLRMOVAN": 9, "NTSLRMOVAT": 9, "NTSLRMOVAS": 9, "NTSLRMOVAL": 9, "NTSLRMOVAR": 9, "NTSLRMOVAM": 9, "NTSLRMOVAO": 9, "NTSLRMOVAV": 9,
		"NTSLRMOVM": 8, "NTSLRMOM": 7, "NTSLRMR": 6, "NTSLRL": 5, "NTSLS": 4, "NTST": 3, "NTN": 2, "NSTL": 2, "NSLT": 3, "NLS": 1, "SNL": 0, "TNSL": 0,
		"NNSL": 1, "NTTSL": 2, "NSSL": 2, "NSLL": 3, "NSLRR": 4,
		"TSLRMOVA": 0, "SL": 0, "NTLRMOVA": 2, "NL": 1, "NTSRMOVA": 3, "NSA": 2, "NSM": 2, "NTR": 2, "NTA": 2, "NA": 1, "NV": 1, "A": 0, "M": 0, "R": 0,
		"N": 1, "NT": 2, "NS": 2, "NTS": 3,
	} {
		wantFault(t, text(letters), number)
	}
}

// Values that cannot be read, by what they would be.
var wrongTimes = []string{
	"", "x", "2026-11-18", "2026-11-18 9:30", "2026-11-18 09:30 ", " 2026-11-18 09:30", "2026-11-18  09:30", "2026-11-18T09:30", "2026-11-18 09:30:00", "-", "0", "66733050", "2026-11-18 09:30>-", "2026-1-18 09:30",
	// of the form, and no times
	"2026-11-18 24:00", "2026-11-18 09:60", "2026-11-31 09:30", "2026-13-01 09:30", "2026-00-01 09:30", "2026-11-00 09:30", "2026-02-29 09:30", "1900-01-01 00:00", "1899-12-31 23:59", "2200-01-01 00:00", "0000-00-00 00:00", "9999-99-99 99:99",
}

var wrongSpans = []string{
	"", "x", "0", "1", "60", "01h", "1h0m", "0h", "60m", "24h", "1m1h", "+1h", "-0m", "--1m", "1 h", " 1h", "1h ", "1H", "1d24h", "1000000000d",
	// of the form, and too great
	"694d10h41m", "-694d10h41m", "695d", "999999999d",
}

var wrongRules = []string{
	"", "x", "Daily", "daily ", " daily", "daily every 1", "daily  every 2", "daily every", "weekly on", "weekly on xx", "daily until 2026-11-31", "daily count 0", "daily every 02", "daily every +2",
	// of the form, and no rules
	"daily every 51", "daily every 0", "daily count 201", "monthly months 13", "monthly days 32", "daily count 1 until 2026-11-30", "monthly days 1,1", "monthly months 2,1", "weekly days 1", "yearly days 1", "daily pick 1", "daily on 1mo", "monthly months 1,2,3,4,5,6,7,8,9,10,11,12,12",
}

var wrongMoves = []string{
	"", "-", ">", ">-", "->", "->-", "2026-11-18 09:30", "2026-11-18 09:30-", "2026-11-18 09:30>", ">2026-11-18 09:30", "2026-11-18 09:30>>-", "2026-11-18 09:30>->", "2026-11-18 09:30>-->", "2026-11-18 09:30>--",
	"->2026-11-18 09:30", "2026-11-18 09:30>2026-11-19 09:30>-", "2026-11-18 09:30>2026-11-19 09:3", "2026-11-18 09:30 >-", "2026-11-18 09:30> -", "2026-11-18 09:30>- ", "2026-11-18 09:30>0", "2026-11-18 09:30>0m", "2026-11-18 09:30<-",
	"2026-11-18 09:30 2026-11-19 09:30", "2026-11-31 09:30>-", "1900-01-01 00:00>-", "2026-11-18 09:30>1900-01-01 00:00", "2026-11-18 09:30>2026-11-19 24:00", "2200-01-01 00:00>-", "2026-11-18 09:30>2200-01-01 00:00", "2026-11-18 09:30>\x00", "2026-11-18 09:30>+",
}

var wrongAlarms = []string{
	// too few words, and too many
	"", "0m", "0m s", "0m s 0", "s 0 0m", "0m 0 0m", "0m s 0m", "0m s 0 0m ", " 0m s 0 0m", "0m s 0 0m 0m", "0m s 0 0m s", "0m s s 0 0m", "0m s 0 0 0m",
	"0m  s 0 0m", "0m s  0 0m", "0m s 0  0m", "0m,s,0,0m", "0m\ts\t0\t0m", "0ms00m", "   ", "0m s 0\x000m",
	// neither s nor e
	"0m x 0 0m", "0m S 0 0m", "0m E 0 0m", "0m se 0 0m", "0m start 0 0m", "0m end 0 0m", "0m  0 0m", "0m 0 0 0m", "0m ss 0 0m", "0m - 0 0m",
	// no number of its own
	"0m s +1 1m", "0m s 01 1m", "0m s -0 0m", "0m s +0 0m", "0m s 00 0m", "0m s  0m", "0m s - 0m", "0m s --1 0m", "0m s -01 0m", "0m s 1_0 1m", "0m s 0x1 1m", "0m s 1.0 1m", "0m s 1e0 1m", "0m s x 0m", "0m s 0m 0m", "0m s ٢ 1m", "0m s 1- 1m",
	"0m s 9223372036854775808 1m", "0m s -9223372036854775809 1m", "0m s 18446744073709551617 1m",
	// no spans
	"0 s 0 0m", "x s 0 0m", "+1m s 0 0m", "-0m s 0 0m", "60m s 0 0m", "694d10h41m s 0 0m", "-695d s 0 0m", "0m s 0 0", "0m s 0 x", "0m s 1 01m", "0m s 1 60m", "0m s 1 694d10h41m", "0m s 0 -0m", "0m s 0 -",
}

var wrongTexts = []string{
	"", `\`, `x\`, `\x`, ";", ",", "a,b", "a;b", `\\\`, `\\,`, `\N`, `\:`, `\ `, `\n\`, ",,", `\,,`,
}

// Each wrong value, in its place: a fault of its line, whichever error is told of the value.
func TestWrongValues(t *testing.T) {
	wrong := [][]string{1: wrongTexts, 2: wrongTimes, 3: wrongSpans, 4: wrongRules, 5: wrongTimes, 6: wrongTimes, 7: wrongMoves, 8: wrongAlarms}
	for place, values := range wrong {
		key, _, _ := strings.Cut(kindLines[place], ":")
		ahead, behind := strings.Join(kindLines[:place], ""), strings.Join(kindLines[place+1:], "")
		short := must
		if place < 4 {
			short = ahead
		}
		for _, value := range values {
			line := folded(key + ":" + value)
			wantFault(t, ahead+line+behind, place)
			wantFault(t, ahead+line, place)
			wantFault(t, ahead+strings.TrimSuffix(line, "\n"), place)
			wantFault(t, short+line, strings.Count(short, "\n"))
			// one that is right ahead of it does not help, where there may be several
			if place > 4 {
				wantFault(t, ahead+kindLines[place]+line+behind, place+1)
				wantFault(t, ahead+kindLines[place]+line+kindLines[place]+behind, place+1)
			}
			// faults of later lines are told no more
			wantFault(t, ahead+line+"x\n", place)
			wantFault(t, ahead+line+kindLines[0], place)
		}
	}
}

// folded writes a whole line in pieces, told by a pattern.
func folded(line string) string {
	if len(line) <= 40 {
		return line + "\n"
	}
	return line[:40] + "\n" + regexp.MustCompile(`(?s).{1,39}`).ReplaceAllString(line[40:], " $0\n")
}

func TestRightValues(t *testing.T) {
	for _, row := range []struct {
		line string
		put  func(e *api.Event)
	}{
		{"MOVE:2026-11-16 09:30>-\n", func(e *api.Event) { e.Changes = []api.Change{{At: monday}} }},
		{"MOVE:2026-11-17 09:30>2026-11-16 09:30\n", func(e *api.Event) { e.Changes = []api.Change{{At: tuesday, To: monday}} }},
		{"ALARM:-1m s 0 0m\n", func(e *api.Event) { e.Alarms = []api.Alarm{{Offset: -1}} }},
		{"ALARM:0m e 0 0m\n", func(e *api.Event) { e.Alarms = []api.Alarm{{End: true}} }},
		{"ALARM:1d e 5 1h1m\n", func(e *api.Event) { e.Alarms = []api.Alarm{{Offset: 1440, End: true, Repeat: 5, Between: 61}} }},
		{"RULE:monthly on 1mo,-1fr\n", func(e *api.Event) {
			e.Repeats, e.Rule = true, api.Rule{Freq: api.Monthly, Every: 1, Weeks: []api.Nth{{N: 1, Weekday: 1}, {N: -1, Weekday: 5}}}
		}},
	} {
		e := meet()
		row.put(&e)
		wantRead(t, must+row.line, e)
	}
}

// Of several lines that cannot stand there the first one is told.
func TestWhichLineIsTold(t *testing.T) {
	for _, wrong := range []string{"x\n", "\n", "X:1\n", "name:meet\n", "MOVE:x\n", "ALARM:x\n"} {
		for _, other := range []string{"y\n", "\n", "Y:1\n", "NOT:x\n", "NAME:meet\n", "ALARM:x\n", "y"} {
			wantFault(t, must+wrong+other, 3)
			wantFault(t, must+kindLines[4]+wrong+other, 4)
			wantFault(t, must+kindLines[4]+kindLines[5]+kindLines[7]+wrong+kindLines[8]+other, 6)
			wantFault(t, wrong+other+must, 0)
			// one that must stand there lacks besides
			wantFault(t, "NAME:meet\n"+wrong+other, 1)
		}
	}
	// What Check would say of the lines ahead is not asked where a line cannot stand there.
	wantFault(t, "NAME:\nSTART:2026-11-16 09:30\nLENGTH:-1h\nALARM:x\n", 3)
	wantFault(t, "NAME:\nSTART:2026-11-16 09:30\n", 2)
	wantFault(t, "NAME:MEET\nSTART:2026-11-16 09:30\nLENGTH:1h", 2)
}

// Lines that can all be read, of an event that there may not be.
func TestCheckedBehindAll(t *testing.T) {
	head := "START:2026-11-16 09:30\nLENGTH:1h\n"
	more := strings.Repeat("MORE:2026-11-17 09:30\n", 101)
	for _, row := range []struct {
		text string
		told api.Errno
	}{
		{"NAME:\n" + head, api.ErrSyntax},
		{"NAME:Meet\n" + head, api.ErrSyntax},
		{"NAME:abcdefghi\n" + head, api.ErrSyntax},
		{"NAME: meet\n" + head, api.ErrSyntax},
		{"NAME:meet \n" + head, api.ErrSyntax},
		{"NAME:NAME:meet\n" + head, api.ErrSyntax},
		{"NAME::\n" + head, api.ErrSyntax},
		{"NAME:\xff\x00\n" + head, api.ErrSyntax},
		{"NAME:meet\r\n" + head, api.ErrSyntax},
		{folded("NAME:"+counted(80)) + head, api.ErrSyntax},
		{"NAME:meet\n" + folded("TEXT:"+counted(61)) + head, api.ErrSyntax},
		{"NAME:meet\nTEXT:a\\nb\n" + head, api.ErrSyntax},
		{"NAME:meet\nTEXT:\x7f\n" + head, api.ErrSyntax},
		{"NAME:meet\nTEXT:\t\n" + head, api.ErrSyntax},
		{"NAME:meet\nTEXT:\xc3\xa4\n" + head, api.ErrSyntax},
		{"NAME:meet\nSTART:2026-11-16 09:30\nLENGTH:-1m\n", api.ErrRange},
		{"NAME:meet\nSTART:2026-11-16 09:30\nLENGTH:69d10h41m\n", api.ErrRange},
		{"NAME:meet\nSTART:2026-11-16 09:30\nLENGTH:694d10h40m\n", api.ErrRange},
		{must + more, api.ErrFull},
		{must + strings.ReplaceAll(more, "MORE", "NOT"), api.ErrFull},
		{must + strings.ReplaceAll(strings.ReplaceAll(more, "MORE", "MOVE"), "30\n", "30>-\n"), api.ErrFull},
		{must + strings.Repeat("ALARM:0m s 0 0m\n", 5), api.ErrFull},
		{must + "MORE:2026-11-17 09:30\nMORE:2026-11-17 09:30\n", api.ErrClash},
		{must + "NOT:2026-11-17 09:30\nNOT:2026-11-17 09:29\n", api.ErrClash},
		{must + "MOVE:2026-11-17 09:30>-\nMOVE:2026-11-17 09:30>2026-11-18 09:30\n", api.ErrClash},
		{must + "ALARM:69d10h41m s 0 0m\n", api.ErrRange},
		{must + "ALARM:-69d10h41m e 0 0m\n", api.ErrRange},
		{must + "ALARM:0m s 6 1m\n", api.ErrRange},
		{must + "ALARM:0m s -1 1m\n", api.ErrRange},
		{must + "ALARM:0m s 10 1m\n", api.ErrRange},
		{must + "ALARM:0m s 9223372036854775807 1m\n", api.ErrRange},
		{must + "ALARM:0m s -9223372036854775808 1m\n", api.ErrRange},
		{must + "ALARM:0m s 1 0m\n", api.ErrRange},
		{must + "ALARM:0m s 0 1m\n", api.ErrRange},
		{must + "ALARM:0m s 1 6d22h41m\n", api.ErrRange},
		{must + "ALARM:0m s 1 -1m\n", api.ErrRange},
		// of several the one that chapter 8 names first
		{"NAME:\nSTART:2026-11-16 09:30\nLENGTH:-1m\n" + more, api.ErrSyntax},
		{"NAME:meet\nSTART:2026-11-16 09:30\nLENGTH:-1m\n" + more, api.ErrRange},
		{must + more + "ALARM:0m s 1 0m\n", api.ErrFull},
		{must + "NOT:2026-11-17 09:30\nNOT:2026-11-17 09:30\nALARM:0m s 1 0m\n", api.ErrClash},
	} {
		wantNotRead(t, row.text, 0, row.told)
	}
}

// scribble over all the memory that the lists of an event have.
func scribble(e api.Event) {
	for _, list := range [][]int{e.Rule.Months, e.Rule.Days, e.Rule.Pick, e.More, e.Not} {
		list = list[:cap(list)]
		for i := range list {
			list[i] = -77
		}
	}
	clear(e.Rule.Weeks[:cap(e.Rule.Weeks)])
	clear(e.Changes[:cap(e.Changes)])
	clear(e.Alarms[:cap(e.Alarms)])
}

// What is told is fresh: neither another answer nor another list of the same one has part in it.
func TestEventIsItsOwn(t *testing.T) {
	want := laden()
	text, _ := card.Print(want)
	first, _, _ := card.Parse(text)
	second, _, _ := card.Parse(text)
	if !same(first, want) {
		t.Fatalf("Parse(%q): got %+v, want %+v", text, first, want)
	}
	scribble(first)
	if !same(second, want) {
		t.Errorf("Parse(%q): the second answer became %+v, want %+v", text, second, want)
	}
	wantRead(t, text, want)
	// A list that grows in its memory reaches no other one.
	second.More = append(second.More, slices.Repeat([]int{5}, cap(second.More)-len(second.More))...)
	second.Rule.Months = append(second.Rule.Months, slices.Repeat([]int{5}, cap(second.Rule.Months)-len(second.Rule.Months))...)
	second.More, second.Rule.Months = want.More, want.Rule.Months
	if !same(second, want) {
		t.Errorf("Parse(%q): got %+v, want %+v", text, second, want)
	}
}

// Long texts are told as short ones are.
func TestLongTexts(t *testing.T) {
	const many = 100000
	wantFault(t, strings.Repeat("\n", many), 0)
	wantFault(t, strings.Repeat(" ", many), 0)
	wantFault(t, strings.Repeat(" \n", many), 0)
	wantFault(t, strings.Repeat("x", many), 0)
	wantFault(t, strings.Repeat("NAME:meet\n", many), 1)
	wantNotRead(t, must+strings.Repeat(kindLines[5], many), 0, api.ErrFull)
	wantNotRead(t, must+strings.Repeat(kindLines[8], many), 0, api.ErrFull)
	wantFault(t, must+strings.Repeat(kindLines[5], many)+"x\n", many+3)
	wantFault(t, must+strings.Repeat(kindLines[5], many)+kindLines[4], many+3)
	wantNotRead(t, folded("NAME:"+counted(many))+must[len("NAME:meet\n"):], 0, api.ErrSyntax)
	wantFault(t, "NAME:meet\n"+folded("TEXT:"+strings.Repeat(",", many)), 1)
	wantFault(t, must+folded("RULE:daily on "+strings.Repeat("mo,", many)), 3)
	wantFault(t, must+folded("MOVE:"+strings.Repeat(">", many)), 3)
	wantFault(t, must+folded("ALARM:0m s 0"+strings.Repeat(" ", many)), 3)
	wantFault(t, must+folded("ALARM:0m s "+strings.Repeat("1", many)+" 0m"), 3)
}
