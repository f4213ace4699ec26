package zone_test

import (
	"math"
	"reflect"
	"slices"
	"testing"

	"chimework/api"
	"chimework/plain"
	"chimework/zone"
)

// notAhead are no minutes that a zone may be ahead, up to the ends of int.
var notAhead = []int{math.MinInt, math.MinInt + 1, math.MinInt32, -1440, -902, -901, 901, 902, 1440, math.MaxInt32, math.MaxInt - 1, math.MaxInt}

// wantError asks all calls for an error, and for nothing beside it.
func wantError(t *testing.T, z api.Zone, n int, want api.Errno) {
	t.Helper()
	calls := []struct {
		what string
		call func(api.Zone, int) (int, error)
	}{{"Ahead", zone.Ahead}, {"Local", zone.Local}, {"World", zone.World}}
	for _, c := range calls {
		if got, err := c.call(z, n); got != 0 || plain.Told(err) != want {
			t.Errorf("%s(%v, %d): got %d, %v, want 0, %v", c.what, z, n, got, err, want)
		}
	}
	if got, err := zone.Twice(z, n); len(got) != 0 || plain.Told(err) != want {
		t.Errorf("Twice(%v, %d): got %v, %v, want none, %v", z, n, got, err, want)
	}
}

// wantRefused asks Check for an error, and the other calls for the same, whatever time they are given.
func wantRefused(t *testing.T, z api.Zone, want api.Errno) {
	t.Helper()
	wantCheck(t, z, want)
	for _, n := range append([]int{1, 1440, 66729600, lastTime}, noTimes...) {
		wantError(t, z, n, want)
	}
}

func TestErrorsByNumber(t *testing.T) {
	for want, told := range map[int]error{
		0: zone.Check(api.Zone{}),
		1: zone.Check(zoneOf(901)),
		4: zone.Check(inARow(0, 1440, apart, maxShifts+1, 0)),
		7: zone.Check(zoneOf(0, 1440, 0, 1440, 0)),
	} {
		if int(plain.Told(told)) != want {
			t.Errorf("got %v, want the error %d", told, want)
		}
	}
	if _, err := zone.World(zoneOf(60), 1); int(plain.Told(err)) != 8 {
		t.Errorf("got %v, want the error 8", err)
	}
}

func TestAheadThatIsNone(t *testing.T) {
	for _, n := range []int{-900, -899, 0, 899, 900} {
		wantCheck(t, zoneOf(n), api.OK)
		wantCheck(t, zoneOf(0, 1440, n), api.OK)
		wantCheck(t, zoneOf(0, 1440, 0, 66729600, n, 66829600, 0), api.OK)
	}
	for _, n := range notAhead {
		wantRefused(t, zoneOf(n), api.ErrRange)
		wantRefused(t, zoneOf(n, 1440, 0), api.ErrRange)
		wantRefused(t, zoneOf(0, 1440, n), api.ErrRange)
		wantRefused(t, zoneOf(0, 1440, 0, 66729600, n, 66829600, 0), api.ErrRange)
		wantRefused(t, zoneOf(0, 1440, 0, 66729600, 0, 66829600, n), api.ErrRange)
	}
}

func TestAtThatIsNoTime(t *testing.T) {
	for _, at := range []int{1, 2, lastTime - 1, lastTime} {
		wantCheck(t, zoneOf(0, at, 60), api.OK)
	}
	wantCheck(t, zoneOf(0, 1, 60, 1441, 0, lastTime-1440, 60, lastTime, 0), api.OK)
	for _, at := range noTimes {
		wantRefused(t, zoneOf(0, at, 60), api.ErrRange)
		wantRefused(t, zoneOf(0, 1, 60, at, 0), api.ErrRange)
		wantRefused(t, zoneOf(0, lastTime, 60, at, 0), api.ErrRange)
		wantRefused(t, zoneOf(0, at, 60, 66729600, 0), api.ErrRange)
		wantRefused(t, zoneOf(0, 1440, 60, at, 0, lastTime, 60), api.ErrRange)
	}
}

func TestShiftsThatClash(t *testing.T) {
	for _, a := range []int{1, 1440, 66729600, lastTime - 1441} {
		wantCheck(t, zoneOf(0, a, 60, a+1440, 0), api.OK)
		wantCheck(t, zoneOf(0, a, 60, a+1441, 0), api.OK)
		for _, by := range []int{0, 1, 60, 1438, 1439} {
			wantRefused(t, zoneOf(0, a, 60, a+by, 0), api.ErrClash)
			wantRefused(t, zoneOf(0, a, 60, a+by, 60), api.ErrClash)
			wantRefused(t, zoneOf(0, a+by, 60, a, 0), api.ErrClash)
		}
	}
	wantRefused(t, zoneOf(0, 66729600+1440, 60, 66729600, 0), api.ErrClash)
	wantRefused(t, zoneOf(0, lastTime, 60, 1, 0), api.ErrClash)
	// Each is held against the one ahead, not against the first one, nor the greatest.
	wantCheck(t, zoneOf(0, 1440, 0, 2880, 0, 4320, 0), api.OK)
	wantRefused(t, zoneOf(0, 1440, 0, 2880, 0, 4319, 0), api.ErrClash)
	wantRefused(t, zoneOf(0, 1440, 0, 2879, 0, 4320, 0), api.ErrClash)
	wantRefused(t, zoneOf(0, 1440, 0, 7200, 0, 2880, 0), api.ErrClash)
	wantRefused(t, zoneOf(0, 7200, 0, 1440, 0, 2880, 0), api.ErrClash)
}

func TestHowManyShifts(t *testing.T) {
	wantCheck(t, inARow(0, 1, apart, maxShifts-1, 60, 0), api.OK)
	wantCheck(t, inARow(0, 1, apart, maxShifts, 60, 0), api.OK)
	wantCheck(t, inARow(0, lastTime-(maxShifts-1)*apart, apart, maxShifts, 60, 0), api.OK)
	for _, many := range []int{maxShifts + 1, maxShifts + 2, 100, 5000} {
		wantRefused(t, inARow(0, 1, apart, many, 60, 0), api.ErrFull)
	}
	clash := inARow(0, 1440, apart, maxShifts, 60, 0)
	clash.Shifts[maxShifts-1].At--
	wantRefused(t, clash, api.ErrClash)
	far := inARow(0, 1440, apart, maxShifts, 60, 0)
	far.Shifts[maxShifts-1].Ahead = 901
	wantRefused(t, far, api.ErrRange)
}

// Where several things are wrong, the one that Z1 names first is told, and of the shifts that of the first one.
func TestWhichErrorOfCheck(t *testing.T) {
	many := inARow(901, 1440, 0, maxShifts+1, 901)
	wantRefused(t, many, api.ErrFull)
	wantRefused(t, inARow(0, 0, 0, maxShifts+1, 60), api.ErrFull)
	wantRefused(t, inARow(-901, 66729600, 0, 2, 60), api.ErrRange)
	// a shift that has both faults
	wantRefused(t, zoneOf(0, 66729600, 60, 66729600, 901), api.ErrRange)
	wantRefused(t, zoneOf(0, 66729600, 60, 0, 60), api.ErrRange)
	wantRefused(t, zoneOf(0, 66729600, 60, math.MinInt, math.MaxInt), api.ErrRange)
	// one that clashes ahead of one that is out of range, and the other way round
	wantRefused(t, zoneOf(0, 66729600, 60, 66729600, 0, 66829600, 901), api.ErrClash)
	wantRefused(t, zoneOf(0, 66729600, 60, 66729600, 0, lastTime+1, 0), api.ErrClash)
	wantRefused(t, zoneOf(0, 66729600, 901, 66729600, 0), api.ErrRange)
	wantRefused(t, zoneOf(0, 66729600, 60, 66829600, -901, 66829600, 0), api.ErrRange)
	wantRefused(t, zoneOf(0, 0, 60, 1440, 0, 1440, 0), api.ErrRange)
}

func TestTimesThatAreNone(t *testing.T) {
	for _, z := range []api.Zone{{}, zoneOf(60), zoneOf(-60), zoneOf(900), zoneOf(-900), zoneOf(-900, 1, 900), zoneOf(900, lastTime, -900), inARow(0, 66729600, apart, maxShifts, 60, 0)} {
		for _, n := range noTimes {
			wantError(t, z, n, api.ErrRange)
		}
	}
}

// An empty list of shifts and nil are the same.
func TestEmptyAndNil(t *testing.T) {
	for _, shifts := range [][]api.Shift{nil, {}, make([]api.Shift, 0, 30)} {
		z := api.Zone{Ahead: 60, Shifts: shifts}
		wantCheck(t, z, api.OK)
		wantAhead(t, z, 66729600, 60)
		wantLocal(t, z, 66729600, 66729660)
		wantBack(t, z, 66729600, 66729540)
	}
}

// What was handed in stays, also where it is refused, and what stands behind its length is neither asked for nor changed.
func TestShiftsStayAsTheyAre(t *testing.T) {
	const a = 66729600
	behind := []api.Shift{{At: a + 2*apart, Ahead: 300}, {At: -1, Ahead: 901}}
	for _, second := range []int{a + apart, a + 1, 0} {
		shifts := slices.Concat([]api.Shift{{At: a, Ahead: 0}, {At: second, Ahead: -60}}, behind)
		before := slices.Clone(shifts)
		z := api.Zone{Ahead: 60, Shifts: shifts[:2]}
		for n := a - 100; n < a+3*apart; n += 10 {
			err := zone.Check(z)
			ahead, aheadErr := zone.Ahead(z, n)
			if err != aheadErr || err == nil && ahead != aheadOf(z, n) {
				t.Fatalf("Ahead(%v, %d): got %d, %v, beside Check's %v", z, n, ahead, aheadErr, err)
			}
			zone.Local(z, n)
			zone.World(z, n)
			zone.Twice(z, n)
		}
		if !slices.Equal(shifts, before) || z.Ahead != 60 || len(z.Shifts) != 2 {
			t.Errorf("got %v, want the shifts as they were, %v", shifts, before)
		}
	}
	full := inARow(0, 1440, apart, maxShifts+1, 0)
	full.Shifts = full.Shifts[:maxShifts]
	wantCheck(t, full, api.OK)
}

// What comes out is the caller's: to write into it changes nothing that is answered later.
func TestAnswersAreFresh(t *testing.T) {
	const a = 66729600
	z := zoneOf(60, a, 0)
	first, _ := zone.Twice(z, a+30)
	second, _ := zone.Twice(z, a+30)
	want := []int{a - 30, a + 30}
	first = append(first, 1, 2, 3)
	clear(first)
	if third, _ := zone.Twice(z, a+30); !slices.Equal(second, want) || !slices.Equal(third, want) {
		t.Errorf("got %v and %v, want %v", second, third, want)
	}
	if !reflect.DeepEqual(z, zoneOf(60, a, 0)) {
		t.Errorf("got the zone %v, want it as it was", z)
	}
}
