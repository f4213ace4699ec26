package plan_test

import (
	"math/rand/v2"
	"slices"
	"testing"
	"time"

	"chimework/api"
	"chimework/event"
	"chimework/plain"
	"chimework/zone"
)

// So many days to both sides of a time near which is drawn all times are told.
const horizon = 320

// near tells the times that lie so many days around one.
func near(base, days int) (int, int) {
	return max(base-days*dayLong, 1), min(base+days*dayLong, lastTime)
}

// timesOf an event near a time, by chapter 8's Local, some days at a look, so that there are not too many.
func timesOf(t *testing.T, e api.Event, base int) []int {
	t.Helper()
	var all []int
	from, end := near(base, horizon)
	for ; from <= end; from += 90 * dayLong {
		list, err := event.Local(e, from, min(from+90*dayLong-1, end))
		wantError(t, "Local", err, api.OK)
		all = append(all, list...)
	}
	return all
}

// realOf tells when times of an event really are, word by word, without those that are called off.
func realOf(e api.Event, times []int) []int {
	var all []int
	for _, which := range times {
		there := which
		for _, c := range e.Changes {
			if c.At == which {
				there = c.To
			}
		}
		if there != 0 {
			all = append(all, there)
		}
	}
	return all
}

// takenBy an event, of which it is told when it really is: what begins in a stretch, each by itself.
func takenBy(z api.Zone, e api.Event, real []int, from, to int) []api.Busy {
	var list []api.Busy
	for _, there := range real {
		at, err := zone.World(z, there)
		if err == nil && at >= from && at < to && at+e.Length <= lastTime {
			list = append(list, api.Busy{From: at, To: at + e.Length})
		}
	}
	return list
}

// faultOf says Busy's errors, word by word; many tells how many Times each event has.
func faultOf(z api.Zone, l []api.Event, from, to int, many func(i int) int) api.Errno {
	if len(l) > mostEvents {
		return api.ErrFull
	}
	sum := 0
	for i, e := range l {
		if err := event.Check(e); err != nil {
			return plain.Told(err)
		}
		if err := zone.Check(z); err != nil {
			return plain.Told(err)
		}
		if from < 1 || from > lastTime || to < 1 || to > lastTime || from > to || to-from > longest {
			return api.ErrRange
		}
		if many(i) > mostTimes {
			return api.ErrFull
		}
		sum += many(i)
	}
	if sum > mostTimes {
		return api.ErrFull
	}
	return api.OK
}

// minutes of which each tells by bits whose it is; the first is that at begin.
type minutes struct {
	begin int
	bits  []uint32
}

// takers lays what each takes onto minutes.
func takers(from, to int, each [][]api.Busy) minutes {
	m := minutes{begin: from, bits: make([]uint32, to-from+100001)}
	for i, list := range each {
		for _, b := range list {
			for minute := b.From; minute < b.To; minute++ {
				m.bits[minute-from] |= 1 << i
			}
		}
	}
	return m
}

// runs makes one of all minutes that stand side by side and are taken.
func (m minutes) runs() []api.Busy {
	var list []api.Busy
	for i, bits := range m.bits {
		if bits == 0 {
			continue
		}
		if last := len(list) - 1; last >= 0 && list[last].To == m.begin+i {
			list[last].To++
		} else {
			list = append(list, api.Busy{From: m.begin + i, To: m.begin + i + 1})
		}
	}
	return list
}

// shared tells which two have a minute together.
func (m minutes) shared(many int) [][2]int {
	kinds := map[uint32]int{}
	for _, bits := range m.bits {
		kinds[bits]++
	}
	var list [][2]int
	for i := range many {
		for k := i + 1; k < many; k++ {
			for bits := range kinds {
				if bits>>i&1 == 1 && bits>>k&1 == 1 {
					list = append(list, [2]int{i, k})
					break
				}
			}
		}
	}
	return list
}

var rulesDrawn = []string{
	"daily", "daily every 2", "daily every 7", "daily count 10", "daily count 200", "daily on mo,fr", "daily months 2,11 days -1,1",
	"weekly", "weekly every 2 on mo,we,su", "weekly count 7 on tu", "weekly on mo,tu,we,th,fr,sa,su pick -1,1",
	"monthly", "monthly days -1,1,15", "monthly every 2 on 1mo,-1fr", "monthly count 5 days 31", "yearly", "yearly count 3 months 11 on 4th",
}

// drawTime near one, at times at a few minutes only, so that they meet.
func drawTime(random *rand.Rand, base, days int) int {
	t := base + (random.IntN(2*days+1)-days)*dayLong
	switch random.IntN(3) {
	case 0:
		t += 30 * random.IntN(8)
	case 1:
		t += random.IntN(dayLong)
	}
	return min(max(t, 1), lastTime)
}

func drawTimes(random *rand.Rand, base, many int) []int {
	var list []int
	for range random.IntN(many + 1) {
		list = append(list, drawTime(random, base, 20))
	}
	slices.Sort(list)
	return slices.Compact(list)
}

// drawEvent near a time.
func drawEvent(t *testing.T, random *rand.Rand, base int) api.Event {
	lengths := []int{0, 1, 30, 60, 90, random.IntN(3000), random.IntN(100001)}
	e := once(drawTime(random, base, 20), lengths[random.IntN(len(lengths))])
	if random.IntN(3) > 0 {
		e = repeated(t, e.Start, e.Length, rulesDrawn[random.IntN(len(rulesDrawn))])
	}
	e.More = drawTimes(random, base, random.IntN(9))
	e.Not = drawTimes(random, base, random.IntN(5))
	if random.IntN(4) == 0 {
		e.Not = []int{e.Start}
	}
	ats := append(drawTimes(random, base, random.IntN(9)), e.More...)
	for i := range random.IntN(9) {
		ats = append(ats, min(e.Start+i*dayLong, lastTime))
	}
	slices.Sort(ats)
	for _, at := range slices.Compact(ats) {
		c := api.Change{At: at}
		if random.IntN(4) > 0 {
			c.To = drawTime(random, base, 25)
		}
		if random.IntN(3) > 0 {
			e.Changes = append(e.Changes, c)
		}
	}
	return e
}

// drawEvents near a time: at times too many, or a wrong one among them.
func drawEvents(t *testing.T, random *rand.Rand, base int) []api.Event {
	var l []api.Event
	for range []int{0, 1, 2, 3, 4, 5, 8, 20, 21}[random.IntN(9)] {
		l = append(l, drawEvent(t, random, base))
	}
	if len(l) > 0 && random.IntN(12) == 0 {
		wrong := wrongEvents()[[]api.Errno{api.ErrSyntax, api.ErrRange, api.ErrShape, api.ErrFull, api.ErrClash}[random.IntN(5)]]
		l[random.IntN(len(l))] = wrong[random.IntN(len(wrong))]
	}
	return l
}

func drawZone(random *rand.Rand, base int) api.Zone {
	aheads := []int{0, 60, -60, 30, -900, 900, random.IntN(1801) - 900, 901}
	z := zoneOf(aheads[random.IntN(7)])
	at := drawTime(random, base, 30)
	for range random.IntN(5) {
		if at <= lastTime {
			z.Shifts = append(z.Shifts, api.Shift{At: at, Ahead: aheads[random.IntN(7)]})
		}
		at += dayLong + random.IntN(5000)
	}
	if random.IntN(20) == 0 {
		z.Ahead = aheads[7]
	}
	return z
}

// drawStretch near a time: at times of no minute, or turned.
func drawStretch(random *rand.Rand, base int) (int, int) {
	from := drawTime(random, base, 20)
	to := from + []int{0, 1, 100, dayLong, 10 * dayLong, 30 * dayLong, 250 * dayLong, -1}[random.IntN(8)]
	return from, min(to, lastTime)
}

// drawn is a list, its zone, when its events really are, and what they take.
type drawn struct {
	zone   api.Zone
	events []api.Event
	real   [][]int
	taken  [][]api.Busy
	told   api.Errno
}

func draw(t *testing.T, random *rand.Rand, base, from, to int) drawn {
	t.Helper()
	d := drawn{zone: drawZone(random, base), events: drawEvents(t, random, base)}
	for _, e := range d.events {
		var real []int
		if event.Check(e) == nil {
			real = realOf(e, timesOf(t, e, base))
		}
		d.real = append(d.real, real)
		d.taken = append(d.taken, takenBy(d.zone, e, real, from, to))
	}
	d.told = faultOf(d.zone, d.events, from, to, func(i int) int { return len(d.taken[i]) })
	return d
}

// hold Busy and Clashes against the minutes.
func (d drawn) hold(t *testing.T, from, to int) {
	t.Helper()
	if d.told != api.OK {
		wantRefused(t, d.zone, d.events, from, to, d.told)
		return
	}
	m := takers(from, max(from, to), d.taken)
	wantBusy(t, d.zone, d.events, from, to, m.runs())
	wantClashes(t, d.zone, d.events, from, to, m.shared(len(d.events)))
}

// holdMeet of several lists against the minutes.
func holdMeet(t *testing.T, several []drawn, from, to, length int) {
	t.Helper()
	var zones []api.Zone
	var l [][]api.Event
	var taken [][]api.Busy
	told := api.OK
	for _, d := range several {
		zones, l, taken = append(zones, d.zone), append(l, d.events), append(taken, slices.Concat(d.taken...))
		if told == api.OK {
			told = d.told
		}
	}
	// Where there is no event, only Slot looks at the stretch.
	if told == api.OK && to < 1 {
		told = api.ErrRange
	}
	if told == api.OK && to < from {
		told = api.ErrShape
	}
	if told != api.OK {
		wantNoMeet(t, zones, l, from, to, length, told)
		return
	}
	m := takers(from, to, taken)
	wantMeetAs(t, zones, l, from, to, length, func(minute int) bool { return m.bits[minute-from] == 0 })
}

// holdLoad of a month against the library's calendar.
func (d drawn) holdLoad(t *testing.T, at int) {
	t.Helper()
	date := func(n int) time.Time { return time.Date(1900, 1, 1, 0, n, 0, 0, time.UTC) }
	year, month, _ := date(at).Date()
	if len(d.events) > mostEvents {
		wantNoLoad(t, d.events, year, int(month), api.ErrFull)
		return
	}
	want := make([]int, lengthOf(year, int(month)))
	for i, e := range d.events {
		if err := event.Check(e); err != nil {
			wantNoLoad(t, d.events, year, int(month), plain.Told(err))
			return
		}
		for _, n := range d.real[i] {
			if y, m, day := date(n).Date(); y == year && m == month {
				want[day-1]++
			}
		}
	}
	wantLoad(t, d.events, year, int(month), want)
}

// Events and zones that are drawn, always the same, against their Times as they are told one by one, and their minutes.
func TestDrawn(t *testing.T) {
	t.Parallel()
	random := rand.New(rand.NewPCG(16, 1))
	told := map[api.Errno]int{}
	for range 400 {
		base := []int{begin, begin + random.IntN(longest), 20 * dayLong, 1, lastTime - 20*dayLong, lastTime}[random.IntN(6)]
		from, to := drawStretch(random, base)
		var several []drawn
		for range random.IntN(4) {
			d := draw(t, random, base, from, to)
			d.hold(t, from, to)
			d.holdLoad(t, drawTime(random, base, 40))
			told[d.told]++
			several = append(several, d)
		}
		for _, length := range []int{1, 30, random.IntN(dayLong) + 1, random.IntN(longest) + 1} {
			holdMeet(t, several, from, to, length)
		}
	}
	// What is drawn has some of each kind.
	for _, kind := range []api.Errno{api.OK, api.ErrRange, api.ErrSyntax, api.ErrShape, api.ErrFull, api.ErrClash} {
		if told[kind] == 0 {
			t.Errorf("none of %v was drawn", kind)
		}
	}
}
