package clock_test

import (
	"errors"
	"math"
	"regexp"
	"strings"
	"testing"
	"time"

	"chimework/api"
	"chimework/clock"
	"chimework/plain"
)

// The ends are written out, so that they are held against numbers that the program did not work out.
const (
	lastDay  = 109573
	lastTime = 157785119
	layout   = "2006-01-02 15:04"
)

// noTimes are none, up to the ends of int.
var noTimes = []int{
	math.MinInt, math.MinInt + 1, math.MinInt / 2, -lastTime, -1440, -1, 0,
	lastTime + 1, lastTime + 1440, math.MaxInt / 2, math.MaxInt - 1, math.MaxInt,
}

// pairs of a time and its text.
var pairs = []struct {
	t    int
	text string
}{
	{1, "1900-01-01 00:01"},
	{59, "1900-01-01 00:59"},
	{60, "1900-01-01 01:00"},
	{1439, "1900-01-01 23:59"},
	{1440, "1900-01-02 00:00"},
	{1520*1440 - 1, "1904-02-29 23:59"},
	{66729178, "2026-11-15 16:58"},
	{66729600, "2026-11-16 00:00"},
	{66731039, "2026-11-16 23:59"},
	{lastTime - 1439, "2199-12-31 00:00"},
	{lastTime, "2199-12-31 23:59"},
}

// wantError asks for the error by its name and by P3's number of it.
func wantError(t *testing.T, what string, in any, err error, want api.Errno) {
	t.Helper()
	number := map[api.Errno]int{api.ErrRange: 1, api.ErrSyntax: 2}[want]
	if told := plain.Told(err); told != want || int(told) != number {
		t.Errorf("%s(%v): got error %v, want %v", what, in, err, want)
	}
}

// moment of the library's calendar that a time is.
func moment(t int) time.Time {
	return time.Date(1900, 1, 1, 0, t, 0, 0, time.UTC)
}

func TestTime(t *testing.T) {
	cases := []struct {
		date   api.Date
		minute int
		want   int
	}{
		{api.Date{Year: 1900, Month: 1, Day: 1}, 1, 1},
		{api.Date{Year: 1900, Month: 1, Day: 1}, 1439, 1439},
		{api.Date{Year: 1900, Month: 1, Day: 2}, 0, 1440},
		{api.Date{Year: 1904, Month: 2, Day: 29}, 0, 1519 * 1440},
		{api.Date{Year: 2026, Month: 9, Day: 18}, 974, 66645614},
		{api.Date{Year: 2026, Month: 11, Day: 16}, 0, 66729600},
		{api.Date{Year: 2026, Month: 11, Day: 16}, 1439, 66731039},
		{api.Date{Year: 2199, Month: 12, Day: 31}, 0, lastTime - 1439},
		{api.Date{Year: 2199, Month: 12, Day: 31}, 1439, lastTime},
	}
	for _, c := range cases {
		if got, err := clock.Time(c.date, c.minute); got != c.want || err != nil {
			t.Errorf("Time(%v, %d): got %d, %v, want %d", c.date, c.minute, got, err, c.want)
		}
	}
}

func TestTimeWrong(t *testing.T) {
	cases := []struct {
		date   api.Date
		minute int
	}{
		{api.Date{Year: 1900, Month: 1, Day: 1}, 0},
		{api.Date{}, 0},
		{api.Date{}, 1},
		{api.Date{Year: 1899, Month: 12, Day: 31}, 1439},
		{api.Date{Year: 2200, Month: 1, Day: 1}, 0},
		{api.Date{Year: 2026, Month: 0, Day: 1}, 10},
		{api.Date{Year: 2026, Month: 13, Day: 1}, 10},
		{api.Date{Year: 2026, Month: 2, Day: 29}, 10},
		{api.Date{Year: 2026, Month: 11, Day: 0}, 10},
		{api.Date{Year: math.MinInt, Month: math.MinInt, Day: math.MinInt}, 10},
		{api.Date{Year: math.MaxInt, Month: math.MaxInt, Day: math.MaxInt}, 10},
	}
	for _, minute := range []int{math.MinInt, math.MinInt + 1, -1440, -1, 1440, 1441, math.MaxInt - 1, math.MaxInt} {
		for _, d := range []api.Date{{Year: 1900, Month: 1, Day: 1}, {Year: 2026, Month: 11, Day: 16}, {Year: 2199, Month: 12, Day: 31}, {}} {
			cases = append(cases, struct {
				date   api.Date
				minute int
			}{d, minute})
		}
	}
	for _, c := range cases {
		got, err := clock.Time(c.date, c.minute)
		wantError(t, "Time", c, err, api.ErrRange)
		if got != 0 {
			t.Errorf("Time(%v): got %d beside an error, want 0", c, got)
		}
	}
}

func TestSplit(t *testing.T) {
	cases := []struct{ t, day, minute int }{
		{1, 1, 1}, {1439, 1, 1439}, {1440, 2, 0}, {1441, 2, 1}, {2879, 2, 1439}, {2880, 3, 0},
		{66729178, 46340, 1018}, {66729600, 46341, 0}, {lastTime - 1439, lastDay, 0}, {lastTime, lastDay, 1439},
	}
	for _, c := range cases {
		n, minute, err := clock.Split(c.t)
		if n != c.day || minute != c.minute || err != nil {
			t.Errorf("Split(%d): got %d, %d, %v, want %d, %d", c.t, n, minute, err, c.day, c.minute)
		}
	}
}

func TestIsTime(t *testing.T) {
	for _, is := range []int{1, 2, 1439, 1440, 66729178, lastTime - 1, lastTime} {
		if !clock.IsTime(is) {
			t.Errorf("IsTime(%d): got false", is)
		}
	}
	for _, no := range noTimes {
		if clock.IsTime(no) {
			t.Errorf("IsTime(%d): got true", no)
		}
	}
}

func TestLast(t *testing.T) {
	if got := clock.Last(); got != lastTime {
		t.Errorf("Last: got %d, want %d", got, lastTime)
	}
}

func TestSplitAndPrintWrong(t *testing.T) {
	for _, no := range noTimes {
		n, minute, err := clock.Split(no)
		wantError(t, "Split", no, err, api.ErrRange)
		if n != 0 || minute != 0 {
			t.Errorf("Split(%d): got %d, %d beside an error, want 0, 0", no, n, minute)
		}
		text, err := clock.Print(no)
		wantError(t, "Print", no, err, api.ErrRange)
		if text != "" {
			t.Errorf("Print(%d): got %q beside an error, want an empty text", no, text)
		}
	}
}

func TestPrintAndParse(t *testing.T) {
	for _, p := range pairs {
		if got, err := clock.Print(p.t); got != p.text || err != nil {
			t.Errorf("Print(%d): got %q, %v, want %q", p.t, got, err, p.text)
		}
		if got, err := clock.Parse(p.text); got != p.t || err != nil {
			t.Errorf("Parse(%q): got %d, %v, want %d", p.text, got, err, p.t)
		}
	}
}

func TestParseSyntax(t *testing.T) {
	wrong := []string{
		"", " ", "0", "2026", "2026-11-16", "2026-11-16 ", "10:30", "2026-11-16 10:3", "026-11-16 10:30",
		"2026-11-16 10:300", "12026-11-16 10:30", "2026-11-16  10:30", " 2026-11-16 10:30", "2026-11-16 10:30 ", "2026-11-16 10:30\n",
		"2026-11-16T10:30", "2026-11-16_10:30", "2026/11/16 10:30", "2026-11-16 10.30", "2026-11 16 10:30", "2026:11:16 10:30", "2026-11-16 10-30",
		"2026-1-16 10:30", "2026-11-6 10:30", "2026-11-16 1:30", "2026-1-016 10:30", "2026- 1-16 10:30", "2026-11-16  1:30", "+026-11-16 10:30",
		"-026-11-16 10:30", "2026-11-16 +1:30", "2026-11--6 10:30", "2026-11-16 10:-3", "YYYY-MM-DD HH:MM", "2026-1x-16 10:30", "2026-11-16 10:30\x00",
		"2026-11-1\x00 10:30", "\xff026-11-16 10:30", "٢-11-16 10:30", "2026-11-16 1٢:3", strings.Repeat("2026-11-16 10:30", 2), strings.Repeat("0", 16), strings.Repeat("9", 1000),
		// The form is asked ahead of the numbers.
		"2026-13-16x10:30", "9999-99-99 99:9x", "x000-00-00 00:00",
	}
	for _, text := range wrong {
		got, err := clock.Parse(text)
		wantError(t, "Parse", text, err, api.ErrSyntax)
		if got != 0 {
			t.Errorf("Parse(%q): got %d beside an error, want 0", text, got)
		}
	}
}

func TestParseRange(t *testing.T) {
	wrong := []string{
		"1900-01-01 00:00", "0000-00-00 00:00", "0000-01-01 00:00", "1899-12-31 23:59", "2200-01-01 00:00", "9999-12-31 23:59", "9999-99-99 99:99",
		"2026-00-16 10:30", "2026-13-16 10:30", "2026-99-16 10:30", "2026-11-00 10:30", "2026-11-31 10:30", "2026-12-32 10:30",
		"2026-02-29 10:30", "2024-02-30 10:30", "1900-02-29 10:30", "2100-02-29 10:30",
		"2026-11-16 24:00", "2026-11-16 99:30", "2026-11-16 98:12", "2026-11-16 10:60", "2026-11-16 10:99", "2026-11-16 23:60", "2026-11-16 24:60",
		"2199-12-31 24:00", "1900-01-01 00:60",
	}
	for _, text := range wrong {
		got, err := clock.Parse(text)
		wantError(t, "Parse", text, err, api.ErrRange)
		if got != 0 {
			t.Errorf("Parse(%q): got %d beside an error, want 0", text, got)
		}
	}
}

var timePattern = regexp.MustCompile(`\A\d{4}-\d\d-\d\d \d\d:\d\d\z`)

// parsed is what Parse must answer, told by the library's patterns and calendar.
func parsed(text string) (int, api.Errno) {
	if !timePattern.MatchString(text) {
		return 0, api.ErrSyntax
	}
	at, err := time.Parse(layout, text)
	if err != nil || !at.After(moment(0)) || at.Year() > 2199 {
		return 0, api.ErrRange
	}
	return int((at.Unix() - moment(0).Unix()) / 60), api.OK
}

func holdParse(t *testing.T, text string) {
	t.Helper()
	want, wrong := parsed(text)
	if got, err := clock.Parse(text); got != want || plain.Told(err) != wrong {
		t.Errorf("Parse(%q): got %d, %v, want %d, %v", text, got, err, want, wrong)
	}
}

// TestParseEachSign lays each sign over, into and out of each place of a text.
func TestParseEachSign(t *testing.T) {
	for _, text := range []string{"2026-11-16 10:30", "1900-01-01 00:01", "2199-12-31 23:59"} {
		for place := range len(text) + 1 {
			for _, sign := range []byte("\x00\n +-./0123456789:;Tdmx\x7f\x80\xff") {
				holdParse(t, text[:place]+string([]byte{sign})+text[place:])
				if place < len(text) {
					holdParse(t, text[:place]+string([]byte{sign})+text[place+1:])
				}
			}
			holdParse(t, text[:place])
			holdParse(t, text[place:])
		}
	}
}

// TestEachDayOfTime holds minutes of every day against the library's calendar.
func TestEachDayOfTime(t *testing.T) {
	for n := 1; n <= lastDay; n++ {
		for _, minute := range []int{0, n % 1440, 1439} {
			at := (n-1)*1440 + minute
			if at == 0 {
				continue
			}
			m := moment(at)
			date := api.Date{Year: m.Year(), Month: int(m.Month()), Day: m.Day()}
			if got, err := clock.Time(date, minute); got != at || err != nil {
				t.Fatalf("Time(%v, %d): got %d, %v, want %d", date, minute, got, err, at)
			}
			if d, k, err := clock.Split(at); d != n || k != minute || err != nil {
				t.Fatalf("Split(%d): got %d, %d, %v, want %d, %d", at, d, k, err, n, minute)
			}
			text := m.Format(layout)
			if got, err := clock.Print(at); got != text || err != nil {
				t.Fatalf("Print(%d): got %q, %v, want %q", at, got, err, text)
			}
			if got, err := clock.Parse(text); got != at || err != nil {
				t.Fatalf("Parse(%q): got %d, %v, want %d", text, got, err, at)
			}
		}
	}
}

// TestEachMinute of one day.
func TestEachMinute(t *testing.T) {
	for minute := range 1440 {
		at := 66729600 + minute
		text := moment(at).Format(layout)
		if got, err := clock.Print(at); got != text || err != nil {
			t.Errorf("Print(%d): got %q, %v, want %q", at, got, err, text)
		}
		if got, err := clock.Parse(text); got != at || err != nil {
			t.Errorf("Parse(%q): got %d, %v, want %d", text, got, err, at)
		}
	}
}

func TestAdd(t *testing.T) {
	cases := []struct{ t, minutes, want int }{
		{1, 0, 1}, {1, 1, 2}, {2, -1, 1}, {1, lastTime - 1, lastTime}, {lastTime, 1 - lastTime, 1}, {lastTime, 0, lastTime}, {lastTime - 1, 1, lastTime},
		{66729178, -1, 66729177}, {21499358, 1979, 21501337}, {66729220, 109573, 66838793}, {66729600, 1_000_001, 67729601}, {66729600, -66729599, 1},
	}
	for _, c := range cases {
		if got, err := clock.Add(c.t, c.minutes); got != c.want || err != nil {
			t.Errorf("Add(%d, %d): got %d, %v, want %d", c.t, c.minutes, got, err, c.want)
		}
	}
}

func TestAddWrong(t *testing.T) {
	cases := [][2]int{
		{1, -1}, {1, -2}, {1, lastTime}, {2, -2}, {lastTime, 1}, {lastTime, -lastTime}, {lastTime - 1, 2}, {lastTime, lastTime},
		// These would be times, were t one.
		{0, 1}, {-1, 2}, {lastTime + 1, -1}, {math.MaxInt, -math.MaxInt + 10}, {math.MinInt + 1, math.MaxInt}, {math.MinInt, math.MinInt}, {math.MaxInt, math.MaxInt},
	}
	for _, no := range noTimes {
		for _, minutes := range []int{math.MinInt, -1, 0, 1, math.MaxInt} {
			cases = append(cases, [2]int{no, minutes})
		}
	}
	for _, at := range []int{1, 2, 1440, 66729600, lastTime - 1, lastTime} {
		for _, minutes := range []int{math.MinInt, math.MinInt + 1, math.MinInt + lastTime, math.MaxInt - lastTime, math.MaxInt - 1, math.MaxInt} {
			cases = append(cases, [2]int{at, minutes})
		}
	}
	for _, c := range cases {
		got, err := clock.Add(c[0], c[1])
		wantError(t, "Add", c, err, api.ErrRange)
		if got != 0 {
			t.Errorf("Add(%v): got %d beside an error, want 0", c, got)
		}
	}
}

// TestErrorsAreErrno: nil where nothing is wrong, and never OK.
func TestErrorsAreErrno(t *testing.T) {
	_, err := clock.Parse("2026-11-16 10:30")
	if err != nil {
		t.Errorf("Parse: got %v, want nil", err)
	}
	_, err = clock.Parse("")
	var no api.Errno
	if !errors.As(err, &no) || no == api.OK {
		t.Errorf("Parse: got %v, want an Errno", err)
	}
}
