package month_test

import (
	"fmt"
	"math"
	"slices"
	"strings"
	"testing"

	"chimework/api"
)

const full = " 15 16 17 18 19 20 21"

// at lays three bytes at a place of a line that is right.
func at(col int, place string) string { return full[:3*col] + place + full[3*col+3:] }

// wantPlace asks for three bytes at each place of a line, in a first line, in one between and in a last one.
func wantPlace(t *testing.T, place string, want int, told api.Errno) {
	t.Helper()
	for col := range 7 {
		line := at(col, place)
		wantCell(t, []string{line}, 0, col, want, told)
		wantCell(t, []string{line, full, ""}, 0, col, want, told)
		wantCell(t, []string{full, line, full}, 1, col, want, told)
		wantCell(t, []string{"", full, line}, 2, col, want, told)
	}
}

func TestNumbersInTwoPlaces(t *testing.T) {
	for n := range 100 {
		want, told := n, api.OK
		if n < 1 || n > 31 {
			want, told = 0, api.ErrSyntax
		}
		wantPlace(t, fmt.Sprintf(" %2d", n), want, told)
		wantPlace(t, fmt.Sprintf("*%2d", n), want, told)
		if n < 10 {
			wantPlace(t, fmt.Sprintf(" %02d", n), 0, api.ErrSyntax)
			wantPlace(t, fmt.Sprintf("*%02d", n), 0, api.ErrSyntax)
			wantPlace(t, fmt.Sprintf(" %d ", n), 0, api.ErrSyntax)
			wantPlace(t, fmt.Sprintf("*%d ", n), 0, api.ErrSyntax)
			wantPlace(t, fmt.Sprintf("%d  ", n), 0, api.ErrSyntax)
		}
		if n >= 10 {
			wantPlace(t, fmt.Sprintf("%d ", n), 0, api.ErrSyntax)
			wantPlace(t, fmt.Sprintf("%d*", n), 0, api.ErrSyntax)
		}
	}
}

func TestPlacesThatAreNone(t *testing.T) {
	wantPlace(t, "   ", 0, api.ErrNone)
	for _, place := range []string{
		"*  ", " * ", "  *", "***", "** ", " **", "* *", "*1*", "**1", " *1",
		"+ 1", "- 1", "+12", "-12", "012", "112", ".12", "x12", "\x0012", "\t12", "\n12", "#12",
		" +1", " -1", "*+1", "*-1", "  -", "  +", " 1-", " 1+",
		" 1x", " x1", "  x", " xx", "* x", "*x1", "*1x", " 0x", " 1.", " .1", "  ,",
		"  \x00", " \x001", "\x00\x00\x00", "  \t", " \t1", "\t\t\t", "\n  ", "  \n", "\r\n ",
		" 3a", " a3", " ²", " ¹", "\xff\xff\xff", "  \xa0", "\xa0 1", "１",
	} {
		wantPlace(t, place, 0, api.ErrSyntax)
	}
}

// A line is 21 bytes long, whatever stands in it, and wherever in it one asks.
func TestLengthOfLine(t *testing.T) {
	lines := []string{"", " ", full[:20], full + " ", " " + full, full[:18], full + full, full + "\n", full[1:], strings.Repeat(" ", 20), strings.Repeat(" ", 22), strings.Repeat("x", 20), strings.Repeat("x", 22), strings.Repeat("x", 63), "²²²²²²²²²²²²²²²²²²²²²"}
	for _, line := range lines {
		for col := range 7 {
			wantCell(t, []string{line}, 0, col, 0, api.ErrSyntax)
			wantCell(t, []string{full, line, full}, 1, col, 0, api.ErrSyntax)
			wantCell(t, []string{full, line, full}, 0, col, 15+col, api.OK)
			wantCell(t, []string{full, line, full}, 2, col, 15+col, api.OK)
		}
		wantCell(t, []string{line}, 0, 7, 0, api.ErrRange)
		wantCell(t, []string{line}, 0, -1, 0, api.ErrRange)
		wantCell(t, []string{line}, 1, 0, 0, api.ErrRange)
	}
	wantCell(t, []string{strings.Repeat(" ", 21)}, 0, 0, 0, api.ErrNone)
	wantCell(t, []string{strings.Repeat("x", 21)}, 0, 0, 0, api.ErrSyntax)
	wantCell(t, []string{"²²²²²²²²²² "}, 0, 0, 0, api.ErrSyntax)
}

// What stands in another place, or another line, is not looked at.
func TestWrongPlaceBeside(t *testing.T) {
	for wrong := range 7 {
		line := at(wrong, "xyz")
		for col := range 7 {
			if col == wrong {
				wantCell(t, []string{line}, 0, col, 0, api.ErrSyntax)
			} else {
				wantCell(t, []string{line}, 0, col, 15+col, api.OK)
			}
			wantCell(t, []string{line, full}, 1, col, 15+col, api.OK)
		}
	}
}

func TestRowAndColAtTheirEnds(t *testing.T) {
	for many := range 7 {
		lines := slices.Repeat([]string{full}, many)
		for _, row := range []int{math.MinInt, -many, -2, -1, 0, many - 1, many, many + 1, math.MaxInt} {
			for _, col := range []int{math.MinInt, -7, -2, -1, 0, 6, 7, 8, math.MaxInt / 3, math.MaxInt/3 + 1, math.MaxInt} {
				if row >= 0 && row < many && col >= 0 && col <= 6 {
					wantCell(t, lines, row, col, 15+col, api.OK)
				} else {
					wantCell(t, lines, row, col, 0, api.ErrRange)
				}
			}
		}
	}
	for _, none := range [][]string{nil, {}} {
		wantCell(t, none, 0, 0, 0, api.ErrRange)
		wantCell(t, none, -1, 0, 0, api.ErrRange)
		wantCell(t, none, 0, 7, 0, api.ErrRange)
	}
}

// As many lines as there may be are no more than another number to Cell.
func TestManyLines(t *testing.T) {
	lines := slices.Repeat([]string{full}, 5000)
	wantCell(t, lines, 4999, 6, 21, api.OK)
	wantCell(t, lines, 5000, 6, 0, api.ErrRange)
}

// The days around a month, and around the whole calendar, are none of it.
func TestDaysBesideTheMonth(t *testing.T) {
	for _, p := range pages {
		ahead, behind := p.first-1, p.first+p.length()
		for _, n := range []int{ahead, behind, ahead - 1, behind + 1, 0, -1, -p.first, lastDay + 1, math.MinInt, math.MaxInt} {
			wantNoMarks(t, p.year, p.month, []int{n}, api.ErrRange)
			wantNoMarks(t, p.year, p.month, append(p.numbered(1, 2, 28), n), api.ErrRange)
			wantNoMarks(t, p.year, p.month, append([]int{n}, p.numbered(1, 2, 28)...), api.ErrRange)
			wantNoMarks(t, p.year, p.month, []int{p.first, n, p.first + 1}, api.ErrRange)
		}
		wantMarks(t, p.year, p.month, []int{ahead + 1, behind - 1}, p.marked(1, p.length()))
		// The number of a day in its month is not its number.
		if p.first > 31 {
			wantNoMarks(t, p.year, p.month, []int{1}, api.ErrRange)
			wantNoMarks(t, p.year, p.month, []int{p.length()}, api.ErrRange)
		}
	}
}

func TestDaysThatDoNotRise(t *testing.T) {
	for _, p := range pages {
		for _, days := range [][]int{{1, 1}, {2, 1}, {28, 1}, {1, 2, 2}, {1, 1, 2}, {1, 3, 2}, {2, 1, 3}, {3, 2, 1}, {28, 28}, {1, 2, 3, 1}, {28, 1, 28}} {
			wantNoMarks(t, p.year, p.month, p.numbered(days...), api.ErrClash)
		}
	}
}

func TestMostDays(t *testing.T) {
	same := slices.Repeat([]int{46341}, mostDays+1)
	wantNoMarks(t, 2026, 11, same[:mostDays], api.ErrClash)
	wantNoMarks(t, 2026, 11, same, api.ErrFull)
	far := slices.Repeat([]int{46341}, mostDays)
	far[mostDays-1] = 46356
	wantNoMarks(t, 2026, 11, far, api.ErrRange)
	wantNoMarks(t, 2026, 11, append(far, 46342), api.ErrFull)
	wantNoMarks(t, 2026, 11, make([]int, 5000), api.ErrFull)
}
