package month_test

import (
	"fmt"
	"math/rand/v2"
	"regexp"
	"strconv"
	"strings"
	"testing"
	"time"

	"chimework/api"
	"chimework/month"
)

// pageOf a month, by the library's calendar, day by day: a new line behind each Sunday.
func pageOf(year, mon int) page {
	begin := time.Date(year, time.Month(mon), 1, 0, 0, 0, 0, time.UTC)
	first := int(begin.Unix()-time.Date(1900, 1, 1, 0, 0, 0, 0, time.UTC).Unix())/86400 + 1
	line := strings.Repeat("   ", (int(begin.Weekday())+6)%7)
	var lines []string
	for d := begin; d.Month() == begin.Month(); d = d.AddDate(0, 0, 1) {
		line += fmt.Sprintf("%3d", d.Day())
		if d.Weekday() == time.Sunday {
			lines, line = append(lines, line), ""
		}
	}
	if line != "" {
		lines = append(lines, fmt.Sprintf("%-21s", line))
	}
	return page{year, mon, first, lines}
}

// drawDays draws days of a month, rising: few, many or all.
func drawDays(random *rand.Rand, length int) []int {
	var days []int
	one := 1 + random.IntN(8)
	for d := 1; d <= length; d++ {
		if random.IntN(one) == 0 {
			days = append(days, d)
		}
	}
	return days
}

// Each month of the calendar, bare and with drawn marks, and what stands at each of its places.
func TestEachMonth(t *testing.T) {
	random := rand.New(rand.NewPCG(19, 1))
	many := map[[2]int]int{} // leaves by weekday and lines
	next := 1
	for year := 1900; year <= 2199; year++ {
		for mon := 1; mon <= 12; mon++ {
			p := pageOf(year, mon)
			if p.first != next {
				t.Fatalf("%d-%d begins with day %d, not %d", year, mon, p.first, next)
			}
			next += p.length()
			wantLeaf(t, year, mon, p.lines)
			days := drawDays(random, p.length())
			wantMarks(t, year, mon, p.numbered(days...), p.marked(days...))
			ahead := strings.Index(p.lines[0], "1") / 3
			wantCells(t, p.marked(days...), ahead, p.length())
			many[[2]int{ahead, len(p.lines)}]++
		}
	}
	if next != lastDay+1 {
		t.Fatalf("the last day is %d, not %d", next-1, lastDay)
	}
	// Four lines come up with Monday alone, six with Saturday and Sunday alone, and five with each weekday.
	if len(many) != 10 || many[[2]int{0, 4}] == 0 || many[[2]int{5, 6}] == 0 || many[[2]int{6, 6}] == 0 {
		t.Errorf("leaves by weekday and lines: %v", many)
	}
}

// faultOf days says M1's errors, word by word.
func faultOf(p page, days []int) api.Errno {
	if len(days) > mostDays {
		return api.ErrFull
	}
	for _, n := range days {
		if n < p.first || n > p.first+p.length()-1 {
			return api.ErrRange
		}
	}
	for i := range days {
		if i > 0 && days[i] <= days[i-1] {
			return api.ErrClash
		}
	}
	return api.OK
}

// Drawn lists of days, right and wrong.
func TestDrawnDays(t *testing.T) {
	random := rand.New(rand.NewPCG(19, 2))
	tally := map[api.Errno]int{}
	for range 20000 {
		p := pages[random.IntN(len(pages))]
		list := p.numbered(drawDays(random, p.length())...)
		for range random.IntN(3) {
			n := p.first - 1 + random.IntN(p.length()+2)
			place := random.IntN(len(list) + 1)
			list = append(list[:place], append([]int{n}, list[place:]...)...)
		}
		if random.IntN(50) == 0 {
			list = append(list, make([]int, 60+random.IntN(50))...)
		}
		told := faultOf(p, list)
		tally[told]++
		if told != api.OK {
			wantNoMarks(t, p.year, p.month, list, told)
			continue
		}
		var days []int
		for _, n := range list {
			days = append(days, n-p.first+1)
		}
		wantMarks(t, p.year, p.month, list, p.marked(days...))
	}
	for _, told := range []api.Errno{api.OK, api.ErrFull, api.ErrRange, api.ErrClash} {
		if tally[told] < 50 {
			t.Errorf("%v came up %d times", told, tally[told])
		}
	}
}

var rightPlace = regexp.MustCompile(`^[ *]( [1-9]|[12][0-9]|3[01])$`)

// readOf says M2's errors of three bytes, word by word, and which day they are.
func readOf(place string) (int, api.Errno) {
	if place == "   " {
		return 0, api.ErrNone
	}
	if !rightPlace.MatchString(place) {
		return 0, api.ErrSyntax
	}
	n, _ := strconv.Atoi(strings.TrimSpace(place[1:]))
	return n, api.OK
}

// wantRead asks for three bytes at one place.
func wantRead(t *testing.T, col int, place string) api.Errno {
	t.Helper()
	want, told := readOf(place)
	wantCell(t, []string{at(col, place)}, 0, col, want, told)
	return told
}

// Each two bytes behind a blank and a mark, and each byte ahead of each two of some bytes.
func TestEachPlace(t *testing.T) {
	tally := map[api.Errno]int{}
	for n := range 256 * 256 {
		two := string([]byte{byte(n / 256), byte(n % 256)})
		tally[wantRead(t, n%7, " "+two)]++
		tally[wantRead(t, n%7, "*"+two)]++
	}
	if tally[api.OK] != 62 || tally[api.ErrNone] != 1 {
		t.Errorf("told: %v", tally)
	}
	const some = " *0123456789x"
	for sign := range 256 {
		for _, a := range []byte(some) {
			for _, b := range []byte(some) {
				wantRead(t, sign%7, string([]byte{byte(sign), a, b}))
			}
		}
	}
}

// Drawn lines, some of them spoilt: each place for itself.
func TestDrawnLines(t *testing.T) {
	random := rand.New(rand.NewPCG(19, 3))
	tally := map[api.Errno]int{}
	const some = "  **0123456789x"
	for range 20000 {
		lines := pages[random.IntN(len(pages))].marked(drawDays(random, 28)...)
		row := random.IntN(len(lines))
		bytes := []byte(lines[row])
		for range random.IntN(8) {
			bytes[random.IntN(len(bytes))] = some[random.IntN(len(some))]
		}
		if random.IntN(30) == 0 {
			bytes = append(bytes, ' ')
		}
		lines[row] = string(bytes)
		for col := range 7 {
			want, told := 0, api.ErrSyntax
			if len(bytes) == 21 {
				want, told = readOf(string(bytes[3*col : 3*col+3]))
			}
			tally[told]++
			wantCell(t, lines, row, col, want, told)
		}
	}
	for _, told := range []api.Errno{api.OK, api.ErrNone, api.ErrSyntax} {
		if tally[told] < 1000 {
			t.Errorf("%v came up %d times", told, tally[told])
		}
	}
}

// Drawn calls, one behind the other: what was asked before does nothing to what comes of it.
func TestDrawnCalls(t *testing.T) {
	random := rand.New(rand.NewPCG(19, 4))
	for range 2000 {
		p := pages[random.IntN(len(pages))]
		switch random.IntN(3) {
		case 0:
			wantLeaf(t, p.year, p.month, p.lines)
		case 1:
			days := drawDays(random, p.length())
			wantMarks(t, p.year, p.month, p.numbered(days...), p.marked(days...))
		default:
			month.Marks(p.year, p.month+random.IntN(20), p.numbered(random.IntN(40)))
		}
	}
}
