package zone_test

import (
	"math"
	"slices"
	"strings"
	"testing"
	"time"

	"chimework/api"
	"chimework/plain"
	"chimework/zone"
)

// The numbers are written out, so that they are held against ones that the program did not work out.
const (
	lastTime  = 157785119
	mostAhead = 900
	maxShifts = 20
	apart     = 1440
)

// noTimes are none, up to the ends of int.
var noTimes = []int{
	math.MinInt, math.MinInt + 1, math.MinInt + mostAhead, math.MinInt / 2, math.MinInt32, -lastTime, -mostAhead, -60, -1, 0,
	lastTime + 1, lastTime + 60, lastTime + mostAhead, math.MaxInt32, math.MaxInt / 2, math.MaxInt - mostAhead, math.MaxInt - 1, math.MaxInt,
}

// moment of the library's calendar that a time is.
func moment(t int) time.Time { return time.Date(1900, 1, 1, 0, t, 0, 0, time.UTC) }

// timesOf texts, `YYYY-MM-DD HH:MM`, commas between, by the library's calendar.
func timesOf(t *testing.T, text string) []int {
	t.Helper()
	var list []int
	for _, word := range strings.Split(text, ",") {
		if word == "" {
			continue
		}
		m, err := time.Parse("2006-01-02 15:04", word)
		if err != nil {
			t.Fatal(err)
		}
		list = append(list, int(m.Unix()-moment(0).Unix())/60)
	}
	return list
}

func timeOf(t *testing.T, text string) int {
	t.Helper()
	return timesOf(t, text)[0]
}

// zoneOf what it is ahead of all shifts, and then At and Ahead of each.
func zoneOf(ahead int, numbers ...int) api.Zone {
	z := api.Zone{Ahead: ahead}
	for pair := range slices.Chunk(numbers, 2) {
		z.Shifts = append(z.Shifts, api.Shift{At: pair[0], Ahead: pair[1]})
	}
	return z
}

// inARow makes a zone whose shifts are equally far apart, and go round through what it is ahead.
func inARow(ahead, first, by, many int, round ...int) api.Zone {
	z := api.Zone{Ahead: ahead}
	for i := range many {
		z.Shifts = append(z.Shifts, api.Shift{At: first + i*by, Ahead: round[i%len(round)]})
	}
	return z
}

func wantCheck(t *testing.T, z api.Zone, want api.Errno) {
	t.Helper()
	err := zone.Check(z)
	if plain.Told(err) != want || want == api.OK && err != nil {
		t.Errorf("Check(%v): got %v, want %v", z, err, want)
	}
}

func wantAhead(t *testing.T, z api.Zone, at, want int) {
	t.Helper()
	if got, err := zone.Ahead(z, at); got != want || err != nil {
		t.Errorf("Ahead(%v, %d): got %d, %v, want %d", z, at, got, err, want)
	}
}

// wantLocal asks for ErrRange where the time that is wanted is 0.
func wantLocal(t *testing.T, z api.Zone, at, want int) {
	t.Helper()
	told := api.OK
	if want == 0 {
		told = api.ErrRange
	}
	if got, err := zone.Local(z, at); got != want || plain.Told(err) != told {
		t.Errorf("Local(%v, %d): got %d, %v, want %d, %v", z, at, got, err, want, told)
	}
}

// wantBack asks Twice for all of the times and World for the first one, or for ErrGap where there is none.
func wantBack(t *testing.T, z api.Zone, there int, want ...int) {
	t.Helper()
	if got, err := zone.Twice(z, there); !slices.Equal(got, want) || err != nil {
		t.Errorf("Twice(%v, %d): got %v, %v, want %v", z, there, got, err, want)
	}
	first, told := 0, api.ErrGap
	if len(want) > 0 {
		first, told = want[0], api.OK
	}
	if got, err := zone.World(z, there); got != first || plain.Told(err) != told {
		t.Errorf("World(%v, %d): got %d, %v, want %d, %v", z, there, got, err, first, told)
	}
}

func TestWithoutShifts(t *testing.T) {
	const noon = 66730320 // 2026-11-16 12:00
	for _, ahead := range []int{-900, -899, -457, -300, -1, 0, 1, 60, 345, 562, 899, 900} {
		z := zoneOf(ahead)
		wantCheck(t, z, api.OK)
		for _, at := range []int{1000, 1440, 21499358, noon, lastTime - 1000} {
			wantAhead(t, z, at, ahead)
			wantLocal(t, z, at, at+ahead)
			wantBack(t, z, at, at-ahead)
		}
		for _, at := range []int{1, lastTime} {
			wantAhead(t, z, at, ahead)
		}
	}
}

// A zone by its summers: it goes ahead on the last Sunday of March and back on that of October, at 01:00 of the world.
func summers(t *testing.T) api.Zone {
	return zoneOf(60, timeOf(t, "2026-03-29 01:00"), 120, timeOf(t, "2026-10-25 01:00"), 60, timeOf(t, "2027-03-28 01:00"), 120, timeOf(t, "2027-10-31 01:00"), 60)
}

func TestLocalOfSummers(t *testing.T) {
	z := summers(t)
	wantCheck(t, z, api.OK)
	cases := []struct {
		at, there string
		ahead     int
	}{
		{"1900-01-01 00:01", "1900-01-01 01:01", 60},
		{"2026-01-01 00:00", "2026-01-01 01:00", 60},
		{"2026-03-29 00:59", "2026-03-29 01:59", 60},
		{"2026-03-29 01:00", "2026-03-29 03:00", 120},
		{"2026-03-29 01:01", "2026-03-29 03:01", 120},
		{"2026-07-31 22:30", "2026-08-01 00:30", 120},
		{"2026-10-25 00:00", "2026-10-25 02:00", 120},
		{"2026-10-25 00:59", "2026-10-25 02:59", 120},
		{"2026-10-25 01:00", "2026-10-25 02:00", 60},
		{"2026-10-25 01:01", "2026-10-25 02:01", 60},
		{"2026-12-31 23:00", "2027-01-01 00:00", 60},
		{"2027-03-28 00:59", "2027-03-28 01:59", 60},
		{"2027-03-28 01:00", "2027-03-28 03:00", 120},
		{"2027-10-31 00:59", "2027-10-31 02:59", 120},
		{"2027-10-31 01:00", "2027-10-31 02:00", 60},
		{"2199-12-31 22:59", "2199-12-31 23:59", 60},
	}
	for _, c := range cases {
		wantAhead(t, z, timeOf(t, c.at), c.ahead)
		wantLocal(t, z, timeOf(t, c.at), timeOf(t, c.there))
	}
	wantLocal(t, z, timeOf(t, "2199-12-31 23:00"), 0)
}

func TestWorldOfSummers(t *testing.T) {
	z := summers(t)
	cases := []struct{ there, world string }{
		{"1900-01-01 00:59", ""},
		{"1900-01-01 01:00", ""},
		{"1900-01-01 01:01", "1900-01-01 00:01"},
		{"2026-01-01 00:30", "2025-12-31 23:30"},
		// the hour that is there never, and the minutes beside it
		{"2026-03-29 01:59", "2026-03-29 00:59"},
		{"2026-03-29 02:00", ""},
		{"2026-03-29 02:01", ""},
		{"2026-03-29 02:30", ""},
		{"2026-03-29 02:58", ""},
		{"2026-03-29 02:59", ""},
		{"2026-03-29 03:00", "2026-03-29 01:00"},
		{"2026-07-01 00:00", "2026-06-30 22:00"},
		// the hour that is there twice, and the minutes beside it
		{"2026-10-25 01:59", "2026-10-24 23:59"},
		{"2026-10-25 02:00", "2026-10-25 00:00,2026-10-25 01:00"},
		{"2026-10-25 02:01", "2026-10-25 00:01,2026-10-25 01:01"},
		{"2026-10-25 02:30", "2026-10-25 00:30,2026-10-25 01:30"},
		{"2026-10-25 02:59", "2026-10-25 00:59,2026-10-25 01:59"},
		{"2026-10-25 03:00", "2026-10-25 02:00"},
		{"2027-03-28 02:00", ""},
		{"2027-03-28 03:00", "2027-03-28 01:00"},
		{"2027-10-31 02:59", "2027-10-31 00:59,2027-10-31 01:59"},
		{"2027-10-31 03:00", "2027-10-31 02:00"},
		{"2199-12-31 23:59", "2199-12-31 22:59"},
	}
	for _, c := range cases {
		wantBack(t, z, timeOf(t, c.there), timesOf(t, c.world)...)
	}
}

// A zone that is behind all the time, by another number in its summers.
func TestBehind(t *testing.T) {
	const spring, autumn = 66389460, 66732060
	z := zoneOf(-300, spring, -240, autumn, -300)
	wantCheck(t, z, api.OK)
	for _, c := range []struct{ at, ahead int }{{1, -300}, {spring - 1, -300}, {spring, -240}, {spring + 1, -240}, {autumn - 1, -240}, {autumn, -300}, {autumn + 1, -300}, {lastTime, -300}} {
		wantAhead(t, z, c.at, c.ahead)
	}
	wantLocal(t, z, spring-1, spring-301)
	wantLocal(t, z, spring, spring-240)
	wantLocal(t, z, autumn-1, autumn-241)
	wantLocal(t, z, autumn, autumn-300)
	wantBack(t, z, spring-301, spring-1)
	wantBack(t, z, spring-300)
	wantBack(t, z, spring-241)
	wantBack(t, z, spring-240, spring)
	wantBack(t, z, autumn-301, autumn-61)
	wantBack(t, z, autumn-300, autumn-60, autumn)
	wantBack(t, z, autumn-241, autumn-1, autumn+59)
	wantBack(t, z, autumn-240, autumn+60)
}

// Shifts that change nothing: each time is there once.
func TestShiftsThatChangeNothing(t *testing.T) {
	z := inARow(-270, 66729600, apart, maxShifts, -270)
	for _, s := range z.Shifts {
		for by := -2; by <= 2; by++ {
			wantAhead(t, z, s.At+by, -270)
			wantLocal(t, z, s.At+by, s.At+by-270)
			wantBack(t, z, s.At+by-270, s.At+by)
		}
	}
}

// Two shifts back, together by more than they are apart: what is there ahead of both comes again behind each.
func TestThrice(t *testing.T) {
	const a = 66729600
	z := zoneOf(900, a, 0, a+apart, -900)
	wantBack(t, z, a-1, a-901)
	wantBack(t, z, a, a-900, a)
	wantBack(t, z, a+539, a-361, a+539)
	wantBack(t, z, a+540, a-360, a+540, a+1440)
	wantBack(t, z, a+541, a-359, a+541, a+1441)
	wantBack(t, z, a+899, a-1, a+899, a+1799)
	wantBack(t, z, a+900, a+900, a+1800)
	wantBack(t, z, a+1439, a+1439, a+2339)
	wantBack(t, z, a+1440, a+2340)
	// As far apart as they go back in all: the one time that is there thrice is no more.
	z = zoneOf(900, a, 0, a+1799, -900)
	wantBack(t, z, a+899, a-1, a+899, a+1799)
	z = zoneOf(900, a, 0, a+1800, -900)
	wantBack(t, z, a+899, a-1, a+899)
	wantBack(t, z, a+900, a+900, a+1800)
}

// Ahead by more than shifts are apart: what a shift would have there is passed over, and is there by none.
func TestWideGaps(t *testing.T) {
	const a = 66729600
	z := zoneOf(-900, a, 900, a+apart, -900, a+2*apart, 900)
	wantBack(t, z, a-901, a-1)
	wantBack(t, z, a-900)
	wantBack(t, z, a+539)
	wantBack(t, z, a+540, a+1440)
	wantBack(t, z, a+899, a+1799)
	wantBack(t, z, a+900, a, a+1800)
	wantBack(t, z, a+1979, a+1079, a+2879)
	wantBack(t, z, a+1980, a+1080)
	wantBack(t, z, a+2339, a+1439)
	wantBack(t, z, a+2340)
	wantBack(t, z, a+3779)
	wantBack(t, z, a+3780, a+2880)
}

// What would be a time of the world ahead of the first one, or behind the last one, is none.
func TestEndsOfTheWorld(t *testing.T) {
	ahead, behind := zoneOf(900), zoneOf(-900)
	wantLocal(t, ahead, 1, 901)
	wantLocal(t, ahead, lastTime-901, lastTime-1)
	wantLocal(t, ahead, lastTime-900, lastTime)
	wantLocal(t, ahead, lastTime-899, 0)
	wantLocal(t, ahead, lastTime, 0)
	wantLocal(t, behind, lastTime, lastTime-900)
	wantLocal(t, behind, 902, 2)
	wantLocal(t, behind, 901, 1)
	wantLocal(t, behind, 900, 0)
	wantLocal(t, behind, 1, 0)
	wantBack(t, ahead, 1)
	wantBack(t, ahead, 900)
	wantBack(t, ahead, 901, 1)
	wantBack(t, ahead, lastTime, lastTime-900)
	wantBack(t, behind, 1, 901)
	wantBack(t, behind, lastTime-900, lastTime)
	wantBack(t, behind, lastTime-899)
	wantBack(t, behind, lastTime)
	for _, by := range []int{-1, 1} {
		wantLocal(t, zoneOf(by), 2, 2+by)
		wantLocal(t, zoneOf(by), lastTime-1, lastTime-1+by)
	}
	wantLocal(t, zoneOf(-1), 1, 0)
	wantLocal(t, zoneOf(1), lastTime, 0)
	wantBack(t, zoneOf(1), 1)
	wantBack(t, zoneOf(-1), lastTime)
}

// Shifts at the first and at the last time: what the zone is ahead ahead of the first one comes never.
func TestShiftsAtTheEnds(t *testing.T) {
	z := zoneOf(-900, 1, 60, lastTime, -60)
	wantCheck(t, z, api.OK)
	wantAhead(t, z, 1, 60)
	wantLocal(t, z, 1, 61)
	wantBack(t, z, 1)
	wantBack(t, z, 60)
	wantBack(t, z, 61, 1)
	wantAhead(t, z, lastTime-1, 60)
	wantLocal(t, z, lastTime-1, 0)
	wantAhead(t, z, lastTime, -60)
	wantLocal(t, z, lastTime, lastTime-60)
	wantBack(t, z, lastTime-61, lastTime-121)
	wantBack(t, z, lastTime-60, lastTime-120, lastTime)
	wantBack(t, z, lastTime-59, lastTime-119)
	wantBack(t, z, lastTime, lastTime-60)
}
