package month_test

import (
	"slices"
	"strings"
	"testing"

	"chimework/api"
	"chimework/month"
	"chimework/plain"
)

const (
	lastDay  = 109573 // 2199-12-31
	mostDays = 100    // in a list
)

// page is a leaf written out: which month, and the number of its first day.
type page struct {
	year, month int
	first       int
	lines       []string
}

// length of the month: what stands last on the page.
func (p page) length() int {
	words := strings.Fields(strings.Join(p.lines, ""))
	last := words[len(words)-1]
	return int(last[0]-'0')*10 + int(last[1]-'0')
}

// pages of months that begin on each of the seven weekdays, of each length, of four, five and six lines, and at both ends of the calendar.
var pages = []page{
	{2027, 2, 46418, []string{
		"  1  2  3  4  5  6  7",
		"  8  9 10 11 12 13 14",
		" 15 16 17 18 19 20 21",
		" 22 23 24 25 26 27 28",
	}},
	{2026, 6, 46173, []string{
		"  1  2  3  4  5  6  7",
		"  8  9 10 11 12 13 14",
		" 15 16 17 18 19 20 21",
		" 22 23 24 25 26 27 28",
		" 29 30               ",
	}},
	{2026, 9, 46265, []string{
		"     1  2  3  4  5  6",
		"  7  8  9 10 11 12 13",
		" 14 15 16 17 18 19 20",
		" 21 22 23 24 25 26 27",
		" 28 29 30            ",
	}},
	{2026, 4, 46112, []string{
		"        1  2  3  4  5",
		"  6  7  8  9 10 11 12",
		" 13 14 15 16 17 18 19",
		" 20 21 22 23 24 25 26",
		" 27 28 29 30         ",
	}},
	{2024, 2, 45322, []string{
		"           1  2  3  4",
		"  5  6  7  8  9 10 11",
		" 12 13 14 15 16 17 18",
		" 19 20 21 22 23 24 25",
		" 26 27 28 29         ",
	}},
	{2027, 1, 46387, []string{
		"              1  2  3",
		"  4  5  6  7  8  9 10",
		" 11 12 13 14 15 16 17",
		" 18 19 20 21 22 23 24",
		" 25 26 27 28 29 30 31",
	}},
	{2026, 8, 46234, []string{
		"                 1  2",
		"  3  4  5  6  7  8  9",
		" 10 11 12 13 14 15 16",
		" 17 18 19 20 21 22 23",
		" 24 25 26 27 28 29 30",
		" 31                  ",
	}},
	{2026, 11, 46326, []string{
		"                    1",
		"  2  3  4  5  6  7  8",
		"  9 10 11 12 13 14 15",
		" 16 17 18 19 20 21 22",
		" 23 24 25 26 27 28 29",
		" 30                  ",
	}},
	{2026, 2, 46053, []string{
		"                    1",
		"  2  3  4  5  6  7  8",
		"  9 10 11 12 13 14 15",
		" 16 17 18 19 20 21 22",
		" 23 24 25 26 27 28   ",
	}},
	{1900, 1, 1, []string{
		"  1  2  3  4  5  6  7",
		"  8  9 10 11 12 13 14",
		" 15 16 17 18 19 20 21",
		" 22 23 24 25 26 27 28",
		" 29 30 31            ",
	}},
	{1900, 2, 32, []string{
		"           1  2  3  4",
		"  5  6  7  8  9 10 11",
		" 12 13 14 15 16 17 18",
		" 19 20 21 22 23 24 25",
		" 26 27 28            ",
	}},
	{2000, 2, 36556, []string{
		"     1  2  3  4  5  6",
		"  7  8  9 10 11 12 13",
		" 14 15 16 17 18 19 20",
		" 21 22 23 24 25 26 27",
		" 28 29               ",
	}},
	{2100, 2, 73081, []string{
		"  1  2  3  4  5  6  7",
		"  8  9 10 11 12 13 14",
		" 15 16 17 18 19 20 21",
		" 22 23 24 25 26 27 28",
	}},
	{2199, 12, 109543, []string{
		"                    1",
		"  2  3  4  5  6  7  8",
		"  9 10 11 12 13 14 15",
		" 16 17 18 19 20 21 22",
		" 23 24 25 26 27 28 29",
		" 30 31               ",
	}},
}

// november is that of 2026: its first day is a Sunday.
var november = pages[7]

// numbered tells the numbers of days of a month.
func (p page) numbered(days ...int) []int {
	var list []int
	for _, d := range days {
		list = append(list, p.first+d-1)
	}
	return list
}

// marked makes the lines of a page with a mark ahead of each of some days of the month.
func (p page) marked(days ...int) []string {
	all := strings.Join(p.lines, "")
	// The blanks ahead of the first day are as many places as it stands behind Monday.
	ahead := strings.Index(all, "1") / 3
	bytes := []byte(all)
	for _, d := range days {
		bytes[3*(ahead+d-1)] = '*'
	}
	var lines []string
	for i := 0; i < len(bytes); i += 21 {
		lines = append(lines, string(bytes[i:i+21]))
	}
	return lines
}

func wantLines(t *testing.T, what string, got []string, err error, want []string) {
	t.Helper()
	if err != nil || !slices.Equal(got, want) {
		t.Fatalf("%s: got %q, %v, want %q", what, got, err, want)
	}
}

func wantNoLines(t *testing.T, what string, got []string, err error, want api.Errno) {
	t.Helper()
	if len(got) != 0 || plain.Told(err) != want {
		t.Fatalf("%s: got %q, %v, want none, %v", what, got, err, want)
	}
}

func wantLeaf(t *testing.T, year, mon int, want []string) {
	t.Helper()
	got, err := month.Leaf(year, mon)
	wantLines(t, "Leaf", got, err, want)
}

func wantMarks(t *testing.T, year, mon int, days []int, want []string) {
	t.Helper()
	got, err := month.Marks(year, mon, days)
	wantLines(t, "Marks", got, err, want)
}

func wantNoMarks(t *testing.T, year, mon int, days []int, want api.Errno) {
	t.Helper()
	got, err := month.Marks(year, mon, days)
	wantNoLines(t, "Marks", got, err, want)
}

// wantCell asks for a day; with an error it is 0.
func wantCell(t *testing.T, lines []string, row, col, want int, told api.Errno) {
	t.Helper()
	got, err := month.Cell(lines, row, col)
	if got != want || plain.Told(err) != told {
		t.Fatalf("Cell of %q, %d, %d: got %d, %v, want %d, %v", lines, row, col, got, err, want, told)
	}
}

func TestPages(t *testing.T) {
	for _, p := range pages {
		wantLeaf(t, p.year, p.month, p.lines)
		wantMarks(t, p.year, p.month, nil, p.lines)
		wantMarks(t, p.year, p.month, []int{}, p.lines)
	}
}

func TestMarksWrittenOut(t *testing.T) {
	cases := []struct {
		days []int
		want []string
	}{
		{[]int{46341}, []string{
			"                    1",
			"  2  3  4  5  6  7  8",
			"  9 10 11 12 13 14 15",
			"*16 17 18 19 20 21 22",
			" 23 24 25 26 27 28 29",
			" 30                  ",
		}},
		{[]int{46326}, []string{
			"                  * 1",
			"  2  3  4  5  6  7  8",
			"  9 10 11 12 13 14 15",
			" 16 17 18 19 20 21 22",
			" 23 24 25 26 27 28 29",
			" 30                  ",
		}},
		{[]int{46355}, []string{
			"                    1",
			"  2  3  4  5  6  7  8",
			"  9 10 11 12 13 14 15",
			" 16 17 18 19 20 21 22",
			" 23 24 25 26 27 28 29",
			"*30                  ",
		}},
		{[]int{46326, 46327, 46333, 46334, 46335, 46347, 46355}, []string{
			"                  * 1",
			"* 2  3  4  5  6  7* 8",
			"* 9*10 11 12 13 14 15",
			" 16 17 18 19 20 21*22",
			" 23 24 25 26 27 28 29",
			"*30                  ",
		}},
		{november.numbered(1, 2, 3, 4, 5, 6, 7, 8, 9, 10, 11, 12, 13, 14, 15, 16, 17, 18, 19, 20, 21, 22, 23, 24, 25, 26, 27, 28, 29, 30), []string{
			"                  * 1",
			"* 2* 3* 4* 5* 6* 7* 8",
			"* 9*10*11*12*13*14*15",
			"*16*17*18*19*20*21*22",
			"*23*24*25*26*27*28*29",
			"*30                  ",
		}},
	}
	for _, c := range cases {
		wantMarks(t, 2026, 11, c.days, c.want)
	}
}

// Each day alone, each two, and all but one, of each page.
func TestMarksOfEachDay(t *testing.T) {
	for _, p := range pages {
		var all []int
		for d := 1; d <= p.length(); d++ {
			all = append(all, d)
		}
		wantMarks(t, p.year, p.month, p.numbered(all...), p.marked(all...))
		for d := range all {
			wantMarks(t, p.year, p.month, p.numbered(d+1), p.marked(d+1))
			rest := slices.Delete(slices.Clone(all), d, d+1)
			wantMarks(t, p.year, p.month, p.numbered(rest...), p.marked(rest...))
			for e := range d {
				wantMarks(t, p.year, p.month, p.numbered(e+1, d+1), p.marked(e+1, d+1))
			}
		}
	}
}

// wantCells asks for each place of lines: the days stand there one behind the other, and else none.
func wantCells(t *testing.T, lines []string, ahead, length int) {
	t.Helper()
	for row := range lines {
		for col := range 7 {
			day := row*7 + col - ahead + 1
			if day >= 1 && day <= length {
				wantCell(t, lines, row, col, day, api.OK)
			} else {
				wantCell(t, lines, row, col, 0, api.ErrNone)
			}
		}
	}
}

// What a leaf has is read as it was, with marks and without.
func TestCellsOfPages(t *testing.T) {
	for _, p := range pages {
		ahead := strings.Index(p.lines[0], "1") / 3
		wantCells(t, p.lines, ahead, p.length())
		wantCells(t, p.marked(1, 2, 9, 10, 28), ahead, p.length())
		for d := 1; d <= p.length(); d++ {
			wantCells(t, p.marked(d), ahead, p.length())
		}
	}
}

func TestCellsWrittenOut(t *testing.T) {
	lines := []string{"                  * 1", "  2  3* 4  5  6  7* 8", "* 9*10 11 12 13 14 15", "*16 17 18 19 20 21*31"}
	cases := []struct {
		row, col, want int
		told           api.Errno
	}{
		{0, 0, 0, api.ErrNone}, {0, 5, 0, api.ErrNone}, {0, 6, 1, api.OK},
		{1, 0, 2, api.OK}, {1, 2, 4, api.OK}, {1, 5, 7, api.OK}, {1, 6, 8, api.OK},
		{2, 0, 9, api.OK}, {2, 1, 10, api.OK}, {2, 2, 11, api.OK}, {3, 0, 16, api.OK}, {3, 6, 31, api.OK},
	}
	for _, c := range cases {
		wantCell(t, lines, c.row, c.col, c.want, c.told)
	}
}
