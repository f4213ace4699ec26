package month_test

import (
	"math"
	"slices"
	"testing"

	"chimework/api"
	"chimework/month"
)

var (
	noYears  = []int{math.MinInt, -2026, -1, 0, 1, 26, 1899, 2200, 2201, 4026, math.MaxInt}
	noMonths = []int{math.MinInt, -11, -1, 0, 13, 14, 24, 2026, math.MaxInt}
)

// wantNoMonth asks for the month's error, whatever days are handed in.
func wantNoMonth(t *testing.T, year, mon int) {
	t.Helper()
	got, err := month.Leaf(year, mon)
	wantNoLines(t, "Leaf", got, err, api.ErrRange)
	for _, days := range [][]int{nil, {}, {46341}, {46341, 46341}, {0}, make([]int, mostDays), make([]int, mostDays+1), slices.Repeat([]int{46341}, mostDays+1)} {
		wantNoMarks(t, year, mon, days, api.ErrRange)
	}
}

func TestYearsAndMonthsThatAreNone(t *testing.T) {
	for _, year := range noYears {
		for mon := 1; mon <= 12; mon++ {
			wantNoMonth(t, year, mon)
		}
		for _, mon := range noMonths {
			wantNoMonth(t, year, mon)
		}
	}
	for _, mon := range noMonths {
		for _, year := range []int{1900, 1999, 2000, 2026, 2199} {
			wantNoMonth(t, year, mon)
		}
	}
	// Turned about they are none.
	wantNoMonth(t, 11, 2026)
}

func TestOrderOfErrors(t *testing.T) {
	falling := slices.Repeat([]int{46342, 46341}, 51)
	wantNoMarks(t, 2026, 13, falling, api.ErrRange) // the month, ahead of ErrFull
	falling[0], falling[101] = 0, lastDay+1
	wantNoMarks(t, 2026, 11, falling[:mostDays+1], api.ErrFull) // ahead of ErrRange
	wantNoMarks(t, 2026, 11, falling[1:], api.ErrFull)
	// ErrRange of any of the days, ahead of ErrClash.
	wantNoMarks(t, 2026, 11, falling[:mostDays], api.ErrRange)
	wantNoMarks(t, 2026, 11, falling[2:], api.ErrRange)
	wantNoMarks(t, 2026, 11, []int{46342, 46341, 46356}, api.ErrRange)
	wantNoMarks(t, 2026, 11, []int{46342, 46342, 46325}, api.ErrRange)
	wantNoMarks(t, 2026, 11, []int{46325, 46342, 46341}, api.ErrRange)
	wantNoMarks(t, 2026, 11, []int{46356, 46325}, api.ErrRange)
	wantNoMarks(t, 2026, 11, falling[1:mostDays+1], api.ErrClash)
	// ErrRange of line and place, ahead of what is wrong with the line; its length, ahead of what stands in it.
	for _, line := range []string{"", "xyz", full[:20], full + "x", at(0, "xyz"), at(6, "   ")} {
		for _, place := range [][2]int{{-1, 0}, {1, 0}, {0, -1}, {0, 7}, {1, 7}, {-1, -1}} {
			wantCell(t, []string{line}, place[0], place[1], 0, api.ErrRange)
		}
	}
	for _, line := range []string{"   ", "    ", at(0, "   ")[:20], at(0, "   ") + " ", at(0, "   ") + "xyz"} {
		wantCell(t, []string{line}, 0, 0, 0, api.ErrSyntax)
	}
}

// A call that was refused leaves nothing behind.
func TestAfterAnError(t *testing.T) {
	wantNoMonth(t, 2026, 0)
	wantLeaf(t, 2026, 11, november.lines)
	wantNoMarks(t, 2026, 11, november.numbered(1, 2, 2), api.ErrClash)
	wantLeaf(t, 2026, 11, november.lines)
	wantMarks(t, 2026, 11, november.numbered(3), november.marked(3))
	wantLeaf(t, 2026, 11, november.lines)
	wantMarks(t, 2026, 11, nil, november.lines)
}
