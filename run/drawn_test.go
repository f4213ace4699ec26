package run_test

import (
	"cmp"
	"fmt"
	"math/rand/v2"
	"regexp"
	"slices"
	"strconv"
	"strings"
	"testing"
	"time"

	"chimework/api"
	"chimework/rule"
	"chimework/run"
	"chimework/seq"
)

const (
	lastTime = 157785119
	mostSpan = 1000000
	dayLong  = 1440
)

var (
	timeForm = `([0-9]{4}-[0-9]{2}-[0-9]{2} [0-9]{2}:[0-9]{2})`
	forms    = map[string]*regexp.Regexp{
		"day":   regexp.MustCompile(`^day ` + timeForm + `$`),
		"add":   regexp.MustCompile(`^add ` + timeForm + ` ([^ ]+)$`),
		"put":   regexp.MustCompile(`^put ([^ ]*) ` + timeForm + ` ([^ ]+)$`),
		"every": regexp.MustCompile(`^every ([^ ]*) ` + timeForm + ` ([^ ]+) (.+)$`),
		"alarm": regexp.MustCompile(`^alarm ([^ ]*) ([^ ]+)$`),
		"drop":  regexp.MustCompile(`^drop ([^ ]*)$`),
		"tick":  regexp.MustCompile(`^tick ` + timeForm + `$`),
		"rung":  regexp.MustCompile(`^rung$`),
		"next":  regexp.MustCompile(`^next ([^ ]*) ` + timeForm + `$`),
		"leaf":  regexp.MustCompile(`^leaf (0|[1-9][0-9]{0,8}) (0|[1-9][0-9]{0,8})$`),
	}
	spanForm = regexp.MustCompile(`^-?([1-9][0-9]{0,8}d)?(([1-9]|1[0-9]|2[0-3])h)?(([1-9]|[1-5][0-9])m)?$`)
	nameForm = regexp.MustCompile(`^[a-z]{1,8}$`)
)

// zero is the minute of which the number would be 0.
var zero = time.Date(1900, 1, 1, 0, 0, 0, 0, time.UTC)

func written(at int) string { return zeroAnd(at).Format("2006-01-02 15:04") }

func zeroAnd(at int) time.Time {
	return time.Unix(zero.Unix()+int64(at)*60, 0).UTC()
}

// readTime by the library's calendar.
func readTime(word string) (int, bool) {
	m, err := time.Parse("2006-01-02 15:04", word)
	if err != nil {
		return 0, false
	}
	at := int(m.Unix()-zero.Unix()) / 60
	return at, at >= 1 && at <= lastTime
}

// readSpan by a pattern, for its form, and the library's durations.
func readSpan(word string) (int, bool) {
	if word == "0m" {
		return 0, true
	}
	parts := spanForm.FindStringSubmatch(word)
	if parts == nil || word == "" || word == "-" {
		return 0, false
	}
	days, _ := strconv.Atoi(strings.TrimSuffix(parts[1], "d"))
	rest, _ := time.ParseDuration("0s" + parts[2] + parts[4])
	n := days*dayLong + int(rest.Minutes())
	if n > mostSpan {
		return 0, false
	}
	if word[0] == '-' {
		n = -n
	}
	return n, true
}

// happening is an event as a teller has it: no start if there is none.
type happening struct {
	start, length int
	again         bool
	rule          api.Rule
	alarms        []int
}

// teller tells what a session is answered: Z1 word by word, with what chapters 8, 9, 10 and 17 say of such events as there are here.
type teller struct {
	events map[string]happening
	now    int
	rung   []bell
	tally  map[string]int
}

type bell struct {
	at    int
	name  string
	which int
	alarm int
}

// answer a line, and count what came of it.
func (w *teller) answer(line string) string {
	word, _, _ := strings.Cut(line, " ")
	form, ok := forms[word]
	if !ok {
		w.tally["none"]++
		return "bad"
	}
	told := "bad"
	if parts := form.FindStringSubmatch(line); parts != nil {
		told = w.row(word, parts[1:])
	}
	kind := "fine"
	if told == "bad" || strings.HasPrefix(told, "Err") {
		kind = told
	}
	w.tally[word+" "+kind]++
	return told
}

// row of a word and its parts.
func (w *teller) row(word string, parts []string) string {
	switch word {
	case "rung":
		return strconv.Itoa(len(w.rung))
	case "drop":
		return w.drop(parts[0])
	case "leaf":
		return leafOf(parts[0], parts[1])
	case "alarm":
		n, ok := readSpan(parts[1])
		if !ok {
			return "bad"
		}
		return w.alarm(parts[0], n)
	}
	// All others have a TIME, behind a NAME if there is one.
	i := 0
	if word == "put" || word == "every" || word == "next" {
		i = 1
	}
	at, ok := readTime(parts[i])
	if !ok {
		return "bad"
	}
	switch word {
	case "day":
		return dayOf(at)
	case "tick":
		return w.tick(at)
	case "next":
		return w.next(parts[0], at)
	}
	n, ok := readSpan(parts[i+1])
	if !ok {
		return "bad"
	}
	if word == "add" {
		if at+n < 1 || at+n > lastTime {
			return "ErrRange"
		}
		return written(at + n)
	}
	e := happening{start: at, length: n}
	if word == "every" {
		r, err := rule.Parse(parts[3])
		if err != nil {
			return "bad"
		}
		e.again, e.rule = true, r
	}
	return w.put(parts[0], e)
}

// dayOf a time, by the library's calendar: its weeks are just such ones, and that of a Thursday behind the last year is none.
func dayOf(at int) string {
	m := zeroAnd(at)
	year, number := m.ISOWeek()
	if year > 2199 {
		return "ErrRange"
	}
	return fmt.Sprintf("%d %d %d", (int(m.Weekday())+6)%7+1, year, number)
}

func leafOf(first, second string) string {
	year, _ := strconv.Atoi(first)
	number, _ := strconv.Atoi(second)
	if year < 1900 || year > 2199 || number < 1 || number > 12 {
		return "ErrRange"
	}
	begin := time.Date(year, time.Month(number), 1, 0, 0, 0, 0, time.UTC)
	told := strings.Repeat("   ", (int(begin.Weekday())+6)%7)
	for d := begin; d.Month() == begin.Month(); d = d.AddDate(0, 0, 1) {
		if d.Weekday() == time.Monday && d != begin {
			told += "|"
		}
		told += fmt.Sprintf("%3d", d.Day())
	}
	for (len(told)+1)%22 != 0 {
		told += " "
	}
	return told
}

// put tells what is wrong with an event: nothing else may be wrong with one that was read from a line.
func (w *teller) put(name string, e happening) string {
	_, there := w.events[name]
	switch {
	case !nameForm.MatchString(name):
		return "ErrSyntax"
	case e.length < 0 || e.length > 100000:
		return "ErrRange"
	case len(e.alarms) > 4:
		return "ErrFull"
	}
	for _, n := range e.alarms {
		if n < -100000 || n > 100000 {
			return "ErrRange"
		}
	}
	if !there && len(w.events) == 20 {
		return "ErrFull"
	}
	w.silence(name)
	w.events[name] = e
	return "ok"
}

// silence what has rung of an event.
func (w *teller) silence(name string) {
	w.rung = slices.DeleteFunc(w.rung, func(b bell) bool { return b.name == name })
}

func (w *teller) alarm(name string, offset int) string {
	e, there := w.events[name]
	if !there {
		return "ErrNone"
	}
	e.alarms = append(slices.Clone(e.alarms), offset)
	return w.put(name, e)
}

func (w *teller) drop(name string) string {
	if _, there := w.events[name]; !there {
		return "ErrNone"
	}
	w.silence(name)
	delete(w.events, name)
	return "ok"
}

// timesOf an event from one number to another one: those of which the end would be no time are none.
func timesOf(e happening, from, to int) []int {
	list := []int{e.start}
	if e.again {
		list = nil
		days, _ := seq.All(e.rule, e.start/dayLong+1, from/dayLong-1, to/dayLong+1)
		for _, n := range days {
			list = append(list, (n-1)*dayLong+e.start%dayLong)
		}
	}
	return slices.DeleteFunc(list, func(at int) bool { return at < from || at > to || at+e.length > lastTime })
}

func (w *teller) next(name string, after int) string {
	e, there := w.events[name]
	if !there {
		return "ErrNone"
	}
	list := timesOf(e, after+1, after+500000)
	if len(list) == 0 {
		return "ErrNone"
	}
	return written(slices.Min(list))
}

func (w *teller) tick(to int) string {
	switch {
	case to <= w.now:
		return "ErrState"
	case w.now == 0:
		w.now = to
		return "-"
	case to-w.now > mostSpan:
		return "ErrRange"
	}
	var due []bell
	for name, e := range w.events {
		for _, which := range timesOf(e, w.now-100000, to+100000) {
			for k, offset := range e.alarms {
				if at := which + offset; at > w.now && at <= to {
					due = append(due, bell{at, name, which, k})
				}
			}
		}
	}
	// If one event has too many, all together have.
	if len(w.rung)+len(due) > 400 {
		return "ErrFull"
	}
	w.now, w.rung = to, append(w.rung, due...)
	slices.SortFunc(due, func(a, b bell) int {
		return cmp.Or(cmp.Compare(a.at, b.at), strings.Compare(a.name, b.name), cmp.Compare(a.which, b.which), cmp.Compare(a.alarm, b.alarm))
	})
	told := "-"
	for i, b := range due {
		if i == 0 {
			told = ""
		} else {
			told += ","
		}
		told += b.name + "@" + written(b.at)
	}
	return told
}

// newTeller of one session; what it counts is counted for all of them.
func newTeller(tally map[string]int) *teller {
	return &teller{events: map[string]happening{}, tally: tally}
}

// pen draws lines.
type pen struct {
	random *rand.Rand
	at     int // the times of a session lie around it
	names  []string
	first  []string // lines that a session begins with
}

func newPen(random *rand.Rand) *pen {
	p := &pen{random: random, at: 66729600 + random.IntN(10*dayLong), names: []string{"a", "b", "c"}}
	switch random.IntN(8) {
	case 0:
		p.at = 1 + random.IntN(3*dayLong)
	case 1:
		p.at = lastTime - random.IntN(3*dayLong)
	case 2:
		p.at = 1 + random.IntN(lastTime)
	}
	switch random.IntN(8) {
	case 0:
		p.names = append(p.names, names(20)...)
		for _, name := range p.names[3:] {
			p.first = append(p.first, "put "+name+" "+p.time()+" 1h")
		}
	case 1:
		p.first = []string{"every a " + p.time() + " 0m daily", "alarm a 0m", "every b " + p.time() + " 1h daily", "alarm b 5m"}
	}
	return p
}

func (p *pen) one(list ...string) string { return list[p.random.IntN(len(list))] }

func (p *pen) name() string {
	if p.random.IntN(20) == 0 {
		return p.one("", "X", "abcdefgh", "abcdefghi", "a1", "zz")
	}
	return p.names[p.random.IntN(len(p.names))]
}

func (p *pen) time() string {
	far := 3 * dayLong
	switch p.random.IntN(24) {
	case 0:
		far = mostSpan
	case 1:
		far = mostSpan / 3
	}
	at := p.at + p.random.IntN(far) - far/3
	if p.random.IntN(40) == 0 {
		at = p.random.IntN(lastTime)
	}
	return written(min(max(at, 1), lastTime))
}

func (p *pen) span() string {
	switch p.random.IntN(12) {
	case 0:
		return p.one("-1m", "70d", "69d10h40m", "-69d10h40m", "200d", "694d10h40m", "694d10h41m", "x", "60m", "1h0m", "-0m", "")
	case 1:
		return strconv.Itoa(1+p.random.IntN(30)) + "d" + strconv.Itoa(1+p.random.IntN(23)) + "h"
	}
	return p.one("0m", "1m", "5m", "30m", "59m", "1h", "1h30m", "23h59m", "1d", "2d3h")
}

func (p *pen) offset() string {
	if p.random.IntN(2) == 0 {
		return p.one("-1m", "-10m", "-1h", "-1d", "-2d3h5m", "-69d10h40m")
	}
	return p.span()
}

var rulesDrawn = []string{
	"daily", "daily every 2", "daily every 3 count 4", "daily count 10", "daily on mo,fr", "daily months 11,12", "daily days 1,16,-1", "daily days -1,1,16", "daily until 2026-11-20", "daily every 51",
	"weekly", "weekly every 2 on mo,we,su", "weekly count 2 on tu", "weekly on th,mo", "weekly on mo,tu,we,th,fr pick -1,1",
	"monthly", "monthly days 16,17,18", "monthly every 2 on 3tu,-1fr", "monthly count 3 days 31", "monthly on mo,tu,we,th,fr pick -1",
	"yearly", "yearly months 2 days 29", "yearly months 11 on 3we", "yearly days 1", "yearly count 2", "hourly", "",
}

// line of some row.
func (p *pen) line() string {
	switch p.random.IntN(12) {
	case 0:
		return "day " + p.time()
	case 1:
		return "add " + p.time() + " " + p.span()
	case 2:
		return "put " + p.name() + " " + p.time() + " " + p.span()
	case 3, 4:
		return "every " + p.name() + " " + p.time() + " " + p.span() + " " + p.one(rulesDrawn...)
	case 5, 6:
		return "alarm " + p.name() + " " + p.offset()
	case 7:
		if p.random.IntN(2) == 0 {
			return "drop " + p.name()
		}
		return "rung"
	case 8, 9:
		on := dayLong
		if p.random.IntN(15) == 0 {
			on = mostSpan / 2
		}
		p.at = min(p.at+p.random.IntN(on), lastTime)
		return "tick " + p.time()
	case 10:
		return "next " + p.name() + " " + p.time()
	}
	year := p.one("1899", "1900", "2026", "2199", "2200", "0", "02026", "1000000000", strconv.Itoa(1900+p.random.IntN(300)), strconv.Itoa(1900+p.random.IntN(300)))
	return "leaf " + year + " " + strconv.Itoa(p.random.IntN(14))
}

// spoil a line: a byte less, or more, or another one, or half of another line.
func (p *pen) spoil(line string) string {
	at := p.random.IntN(len(line) + 1)
	end := min(at+p.random.IntN(2), len(line))
	switch p.random.IntN(8) {
	case 0:
		other := p.line()
		return line[:at] + other[p.random.IntN(len(other)):]
	case 1:
		return strings.Replace(line, " ", p.one("", "  ", "\t"), 1)
	}
	return line[:at] + p.one(" ", "", "0", "1", "9", "a", "-", ":", ",", "m", "\t", "\r", "\x00", "\xff", "é", "A") + line[end:]
}

// lines of a session that is not too long.
func (p *pen) lines() []string {
	list := p.first
	most := []int{30, 300, 1000, mostBytes - 1, mostBytes - 1}[p.random.IntN(5)]
	spoilt := 2 + p.random.IntN(30)
	for left := most - len(text(list...)); ; {
		line := p.line()
		if p.random.IntN(spoilt) == 0 {
			line = p.spoil(line)
		}
		if p.random.IntN(100) == 0 {
			line = p.one("", " ", "fly", "rung ", "RUNG", "\xff")
		}
		left -= len(line) + 1
		if left < 0 {
			return list
		}
		list = append(list, line)
	}
}

// Drawn sessions, always the same, against what they are answered as it is told another way; and the first lines of each.
func TestDrawnSessions(t *testing.T) {
	t.Parallel()
	random := rand.New(rand.NewPCG(20, 1))
	tally := map[string]int{}
	for range 3000 {
		lines := newPen(random).lines()
		w := newTeller(tally)
		var answers []string
		for _, line := range lines {
			answers = append(answers, w.answer(line))
		}
		whole := text(lines...)
		if got, want := run.Run(whole), text(answers...); got != want {
			t.Fatalf("Run(%q): %s", whole, firstOther(lines, got, want))
		}
		many := random.IntN(len(lines) + 1)
		wantRun(t, text(lines[:many]...), text(answers[:many]...))
	}
	for _, kind := range []string{
		"none", "day fine", "day bad", "day ErrRange", "add fine", "add bad", "add ErrRange", "put fine", "put bad", "put ErrSyntax", "put ErrRange", "put ErrFull",
		"every fine", "every bad", "every ErrSyntax", "every ErrRange", "every ErrFull", "alarm fine", "alarm bad", "alarm ErrNone", "alarm ErrFull", "alarm ErrRange",
		"drop fine", "drop bad", "drop ErrNone", "tick fine", "tick bad", "tick ErrState", "tick ErrRange", "tick ErrFull", "rung fine", "rung bad", "next fine", "next bad", "next ErrNone", "leaf fine", "leaf bad", "leaf ErrRange",
	} {
		if tally[kind] < 10 {
			t.Errorf("%q came up %d times", kind, tally[kind])
		}
	}
}

// firstOther line that is answered otherwise than it is to be.
func firstOther(lines []string, got, want string) string {
	told, wanted := strings.Split(got, "\n"), strings.Split(want, "\n")
	for i := range lines {
		if i >= len(told) || told[i] != wanted[i] {
			return fmt.Sprintf("line %d, %q: got %q, want %q", i, lines[i], told[min(i, len(told)-1)], wanted[i])
		}
	}
	return fmt.Sprintf("got %d lines, want %d", len(told), len(wanted))
}

// Any bytes at all: each line is answered by one, as it is told another way.
func TestDrawnBytes(t *testing.T) {
	random := rand.New(rand.NewPCG(20, 2))
	const some = "\n\n  aarung:-0123dropticklef\x00\xff\t\r"
	for range 2000 {
		bytes := make([]byte, random.IntN(200))
		for i := range bytes {
			bytes[i] = byte(random.IntN(256))
			if random.IntN(4) > 0 {
				bytes[i] = some[random.IntN(len(some))]
			}
		}
		w := newTeller(map[string]int{})
		var answers []string
		if len(bytes) > 0 {
			for _, line := range strings.Split(strings.TrimSuffix(string(bytes), "\n"), "\n") {
				answers = append(answers, w.answer(line))
			}
		}
		wantRun(t, string(bytes), text(answers...))
	}
}

// Each byte in place of each of a line, and ahead of it.
func TestEachByte(t *testing.T) {
	for _, row := range rows {
		for place := range len(row) + 1 {
			for b := range 256 {
				for _, rest := range []string{row[place:], strings.TrimPrefix(row[place:], row[place:min(place+1, len(row))])} {
					line := row[:place] + string([]byte{byte(b)}) + rest
					w := newTeller(map[string]int{})
					var answers []string
					for _, one := range append([]string{"put a 2026-11-16 09:30 1h"}, strings.Split(strings.TrimSuffix(line, "\n"), "\n")...) {
						answers = append(answers, w.answer(one))
					}
					wantRun(t, "put a 2026-11-16 09:30 1h\n"+line, text(answers...))
				}
			}
		}
	}
}
