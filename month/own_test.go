package month_test

import (
	"slices"
	"testing"

	"chimework/api"
	"chimework/month"
)

// lists of days, right and wrong.
func someDays() [][]int {
	return [][]int{nil, november.numbered(1), november.numbered(1, 16, 30), november.numbered(5, 5), november.numbered(9, 8), november.numbered(1, 31), november.numbered(0, 4), make([]int, mostDays), make([]int, mostDays+1)}
}

// Days stay as they are, and what lies behind their length is neither read nor written.
func TestDaysStayAsTheyAre(t *testing.T) {
	for _, days := range someDays() {
		want, told := month.Marks(2026, 11, days)
		for _, behind := range [][]int{november.numbered(2, 3, 4), november.numbered(30, 30), {0, -1, lastDay + 1}, make([]int, mostDays)} {
			whole := slices.Concat(days, behind)
			before := slices.Clone(whole)
			got, err := month.Marks(2026, 11, whole[:len(days)])
			if !slices.Equal(got, want) || err != told {
				t.Fatalf("Marks of %v, with %v behind: got %q, %v, want %q, %v", days, behind, got, err, want, told)
			}
			if !slices.Equal(whole, before) {
				t.Fatalf("days were changed: got %v, want %v", whole, before)
			}
		}
	}
}

// Lines stay as they are, and what lies behind their length is no line.
func TestLinesStayAsTheyAre(t *testing.T) {
	for many := range len(november.lines) {
		whole := november.marked(2, 16, 30)
		before := slices.Clone(whole)
		for row := many; row < len(whole)+1; row++ {
			wantCell(t, whole[:many], row, 0, 0, api.ErrRange)
		}
		for row := 1; row < many; row++ {
			wantCell(t, whole[:many], row, 0, row*7-5, api.OK)
		}
		if !slices.Equal(whole, before) {
			t.Fatalf("lines were changed: got %q, want %q", whole, before)
		}
	}
}

// spoil all that a list has, and what lies behind its length.
func spoil(lines []string) {
	lines = append(lines, "spoilt")
	lines = lines[:cap(lines)]
	for i := range lines {
		lines[i] = "spoilt"
	}
}

// leaves tells what calls answer of one month.
func leaves(days []int) [][]string {
	bare, _ := month.Leaf(2026, 11)
	unmarked, _ := month.Marks(2026, 11, nil)
	marked, _ := month.Marks(2026, 11, days)
	return [][]string{bare, unmarked, marked}
}

// What is done to an answer does nothing to another one, earlier or later.
func TestAnswersAreTheCallers(t *testing.T) {
	days := november.numbered(3, 16)
	want := [][]string{november.lines, november.lines, november.marked(3, 16)}
	for i := range want {
		earlier, spoilt := leaves(days), leaves(days)
		spoil(spoilt[i])
		for k, got := range slices.Concat(earlier, leaves(days)) {
			wantLines(t, "a leaf, another one spoilt", got, nil, want[k%len(want)])
		}
		for k, got := range spoilt {
			if k != i {
				wantLines(t, "a leaf beside a spoilt one", got, nil, want[k])
			}
		}
	}
	if !slices.Equal(days, november.numbered(3, 16)) {
		t.Fatalf("the days were changed: got %v", days)
	}
}

// What is done to days later does nothing to what was answered of them.
func TestDaysAreNotKept(t *testing.T) {
	days := november.numbered(3, 16)
	told := leaves(days)
	days[0], days[1] = 0, 46355
	wantLines(t, "marks, the days changed later", told[2], nil, november.marked(3, 16))
	wantNoMarks(t, 2026, 11, days, api.ErrRange)
	days[0] = 46354
	wantMarks(t, 2026, 11, days, november.marked(29, 30))
}
