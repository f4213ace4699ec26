package clock_test

import (
	"fmt"
	"math"
	"regexp"
	"strconv"
	"strings"
	"testing"

	"chimework/api"
	"chimework/clock"
	"chimework/plain"
)

// spans and their texts.
var spans = []struct {
	n    int
	text string
}{
	{0, "0m"}, {1, "1m"}, {-1, "-1m"}, {9, "9m"}, {10, "10m"}, {59, "59m"}, {-59, "-59m"},
	{60, "1h"}, {-60, "-1h"}, {61, "1h1m"}, {600, "10h"}, {1200, "20h"}, {1380, "23h"}, {1439, "23h59m"}, {-1439, "-23h59m"},
	{1440, "1d"}, {-1440, "-1d"}, {1441, "1d1m"}, {-1441, "-1d1m"}, {1500, "1d1h"}, {-1500, "-1d1h"}, {1501, "1d1h1m"}, {-1501, "-1d1h1m"},
	{1979, "1d8h59m"}, {14400, "10d"}, {144000, "100d"}, {109573, "76d2h13m"}, {999360, "694d"}, {999960, "694d10h"},
	{999999, "694d10h39m"}, {-999999, "-694d10h39m"}, {1_000_000, "694d10h40m"}, {-1_000_000, "-694d10h40m"},
}

func TestSpans(t *testing.T) {
	for _, s := range spans {
		if got, err := clock.PrintSpan(s.n); got != s.text || err != nil {
			t.Errorf("PrintSpan(%d): got %q, %v, want %q", s.n, got, err, s.text)
		}
		if got, err := clock.Span(s.text); got != s.n || err != nil {
			t.Errorf("Span(%q): got %d, %v, want %d", s.text, got, err, s.n)
		}
	}
}

func TestPrintSpanWrong(t *testing.T) {
	for _, n := range []int{math.MinInt, math.MinInt + 1, -1_000_001, 1_000_001, math.MaxInt - 1, math.MaxInt} {
		got, err := clock.PrintSpan(n)
		wantError(t, "PrintSpan", n, err, api.ErrRange)
		if got != "" {
			t.Errorf("PrintSpan(%d): got %q beside an error, want an empty text", n, got)
		}
	}
}

func TestSpanSyntax(t *testing.T) {
	wrong := []string{
		// none at all, or signs and letters without what goes with them
		"", " ", "-", "+", "--", "d", "h", "m", "-m", "dhm", "0", "1", "-1", "12", "1s", "1w", "1y", "1D", "1H", "1M", "1x", "x", "x1m", "1m1",
		"+1m", "--1m", "1-m", "1m-", "-1d-1h", "1d-1h", " 1m", "1m ", "1 m", "1d 1h", "1m\n", "1m\x00", "\x001m", "\xff1m", "1\xffm", "1.5h", "1,5h", "1_0m", "٢m", "1e2d",
		// a needless 0, and parts that are 0
		"00m", "000m", "-0m", "0", "-0", "0d", "0h", "-0d", "-0h", "0d0h0m", "01m", "-01m", "01h", "01d", "007d", "1d01h", "1h01m", "1d1h01m", "0d1h", "0d1m", "0h1m",
		"1d0h", "1d0m", "1h0m", "1d0h1m", "1d0h0m", "1d1h0m", "0d1h1m", "0m0m", "0m1m", "0m1d", "-0m1m", "0mh", "0-22h53m",
		// out of order, or twice
		"1h1d", "1m1h", "1m1d", "1d1m1h", "1h1d1m", "1m1h1d", "1d1d", "1h1h", "1m1m", "1d1h1h", "1d1h1m1m", "1d1h1m1d", "13m15m", "1d1d1h1m", "1dd", "19hh48m", "1mm", "1d6hm1m",
		// hours and minutes that are too many
		"24h", "25h", "99h", "-24h", "911h", "1d24h", "60m", "61m", "99m", "-60m", "911m", "1h60m", "1d60m", "1d23h60m", "1d24h59m", "1440m", "999999999h", "999999999m",
		"1000000m", "1000001m", "16666h40m", "1d999999999h", "999999999d24h", "999999999d23h60m",
		// ten digits and more
		"1000000000d", "-1000000000d", "9999999999d", "4294967296d", "1000000000h", "1000000000m", "1d1000000000h", "1h1000000000m", "0000000001m", "0000000001d",
		"9223372036854775807d", "9223372036854775808d", "18446744073709551617m", "18446744073709551616d", strings.Repeat("1", 1000) + "d", strings.Repeat("9", 1000), strings.Repeat("1d", 1000),
		// the form is asked ahead of the size
		"695d1", "999999999d0h", "999999999d1", "999999999dx", "999999999d1m1h", "999999999d999999999d",
	}
	for _, text := range wrong {
		got, err := clock.Span(text)
		wantError(t, "Span", strconv.Quote(text), err, api.ErrSyntax)
		if got != 0 {
			t.Errorf("Span(%q): got %d beside an error, want 0", text, got)
		}
	}
}

func TestSpanRange(t *testing.T) {
	wrong := []string{
		"694d10h41m", "-694d10h41m", "694d11h", "-694d11h", "694d23h59m", "695d", "-695d", "695d1m", "1000d", "10000000d", "100000000d",
		"999999999d", "-999999999d", "999999999d23h59m", "-999999999d23h59m", "999999999d1m",
	}
	for _, text := range wrong {
		got, err := clock.Span(text)
		wantError(t, "Span", text, err, api.ErrRange)
		if got != 0 {
			t.Errorf("Span(%q): got %d beside an error, want 0", text, got)
		}
	}
}

// spanText is what PrintSpan must answer, told another way.
func spanText(n int) string {
	if n == 0 {
		return "0m"
	}
	if n < 0 {
		return "-" + spanText(-n)
	}
	text := fmt.Sprintf(" %dd %dh %dm", n/1440, n/60%24, n%60)
	for _, none := range []string{" 0d", " 0h", " 0m"} {
		text = strings.Replace(text, none, "", 1)
	}
	return strings.ReplaceAll(text, " ", "")
}

// TestEachSpan: all of them are written and read as they were.
func TestEachSpan(t *testing.T) {
	for n := -1_000_000; n <= 1_000_000; n++ {
		text, err := clock.PrintSpan(n)
		if want := spanText(n); text != want || err != nil {
			t.Fatalf("PrintSpan(%d): got %q, %v, want %q", n, text, err, want)
		}
		if got, err := clock.Span(text); got != n || err != nil {
			t.Fatalf("Span(%q): got %d, %v, want %d", text, got, err, n)
		}
	}
}

var spanPattern = regexp.MustCompile(`\A(-?)(?:([1-9]\d{0,8})d)?(?:([1-9]|1\d|2[0-3])h)?(?:([1-9]|[1-5]\d)m)?\z`)

// spanOf is what Span must answer, told by the library's patterns.
func spanOf(text string) (int, api.Errno) {
	m := spanPattern.FindStringSubmatch(text)
	if text == "0m" {
		return 0, api.OK
	}
	if m == nil || text == "" || text == "-" {
		return 0, api.ErrSyntax
	}
	days, _ := strconv.Atoi(m[2])
	hours, _ := strconv.Atoi(m[3])
	minutes, _ := strconv.Atoi(m[4])
	n := days*1440 + hours*60 + minutes
	if n > 1_000_000 {
		return 0, api.ErrRange
	}
	if m[1] == "-" {
		n = -n
	}
	return n, api.OK
}

func holdSpan(t *testing.T, text string) {
	t.Helper()
	want, wrong := spanOf(text)
	if got, err := clock.Span(text); got != want || plain.Told(err) != wrong {
		t.Errorf("Span(%q): got %d, %v, want %d, %v", text, got, err, want, wrong)
	}
}

// TestSpanEachSign lays each sign over, into and out of each place of a text.
func TestSpanEachSign(t *testing.T) {
	for _, text := range []string{"0m", "1m", "-59m", "23h", "-694d10h40m", "694d10h39m", "999999999d23h59m", "1d1h", "-10d5m"} {
		for place := range len(text) + 1 {
			for _, sign := range []byte("\x00\n +-./0123456789:Dcdhims\x7f\x80\xff") {
				holdSpan(t, text[:place]+string([]byte{sign})+text[place:])
				if place < len(text) {
					holdSpan(t, text[:place]+string([]byte{sign})+text[place+1:])
				}
			}
			holdSpan(t, text[:place])
			holdSpan(t, text[place:])
		}
	}
}

// TestSpanShortTexts goes over every text of up to six of these signs.
func TestSpanShortTexts(t *testing.T) {
	texts := []string{""}
	for range 6 {
		var longer []string
		for _, text := range texts {
			holdSpan(t, text)
			for _, sign := range []string{"-", "0", "2", "d", "h", "m"} {
				longer = append(longer, text+sign)
			}
		}
		texts = longer
	}
	for _, text := range texts {
		holdSpan(t, text)
	}
}
