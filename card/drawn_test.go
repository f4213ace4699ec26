package card_test

import (
	"fmt"
	"math/rand/v2"
	"regexp"
	"slices"
	"strconv"
	"strings"
	"testing"

	"chimework/api"
	"chimework/card"
	"chimework/clock"
	"chimework/event"
	"chimework/line"
	"chimework/plain"
	"chimework/rule"
)

// told is what Print must tell of an event that Check takes: K1, word by word.
func told(e api.Event) string {
	at := func(n int) string {
		text, _ := clock.Print(n)
		return text
	}
	span := func(n int) string {
		text, _ := clock.PrintSpan(n)
		return text
	}
	text := folded("NAME:" + e.Name)
	if e.Text != "" {
		text += folded("TEXT:" + strings.NewReplacer(`\`, `\\`, `;`, `\;`, `,`, `\,`, "\n", `\n`).Replace(e.Text))
	}
	text += folded("START:"+at(e.Start)) + folded("LENGTH:"+span(e.Length))
	if e.Repeats {
		words, _ := rule.Print(e.Rule)
		text += folded("RULE:" + words)
	}
	for _, n := range e.More {
		text += folded("MORE:" + at(n))
	}
	for _, n := range e.Not {
		text += folded("NOT:" + at(n))
	}
	for _, c := range e.Changes {
		to := "-"
		if c.To != 0 {
			to = at(c.To)
		}
		text += folded("MOVE:" + at(c.At) + ">" + to)
	}
	for _, a := range e.Alarms {
		text += folded(fmt.Sprintf("ALARM:%s %s %d %s", span(a.Offset), map[bool]string{false: "s", true: "e"}[a.End], a.Repeat, span(a.Between)))
	}
	return text
}

// answer of Parse.
type answer struct {
	e   api.Event
	n   int
	err api.Errno
}

// understood is what Parse must tell of a text: K2, one thing behind the other.
func understood(text string) answer {
	lines, ok := unfolded(text)
	if !ok {
		return answer{err: api.ErrSyntax}
	}
	var e api.Event
	letters := ""
	for n, whole := range lines {
		letter, ok := readLine(&e, whole)
		letters += letter
		if !ok || !mayBegin.MatchString(letters) || n == len(lines)-1 && !strings.HasSuffix(text, "\n") {
			return answer{n: n, err: api.ErrSyntax}
		}
	}
	if !mayBeAll.MatchString(letters) {
		return answer{n: len(lines), err: api.ErrSyntax}
	}
	if err := event.Check(e); err != nil {
		return answer{err: plain.Told(err)}
	}
	return answer{e: e}
}

// unfolded goes by the lengths of pieces: 40 bytes but for a last one, that has more than its blank.
func unfolded(text string) ([]string, bool) {
	if text == "" {
		return nil, true
	}
	var lines []string
	lastLength := 0
	for i, piece := range strings.Split(strings.TrimSuffix(text, "\n"), "\n") {
		if len(piece) > 40 {
			return nil, false
		}
		if i == 0 || piece == "" || piece[0] != ' ' {
			lines = append(lines, piece)
		} else if lastLength < 40 || len(piece) < 2 {
			return nil, false
		} else {
			lines[len(lines)-1] += piece[1:]
		}
		lastLength = len(piece)
	}
	return lines, true
}

var (
	pairForm  = regexp.MustCompile(`(?s)^(NAME|TEXT|START|LENGTH|RULE|MORE|NOT|MOVE|ALARM):(.*)$`)
	textForm  = regexp.MustCompile(`^([^\\;,\n]|\\[\\;,n])+$`)
	moveForm  = regexp.MustCompile(`^(.{16})>(-|.{16})$`)
	alarmForm = regexp.MustCompile(`^([^ ]*) ([se]) (0|-?[1-9][0-9]{0,17}) ([^ ]*)$`)
	letterOf  = map[string]string{"NAME": "N", "TEXT": "T", "START": "S", "LENGTH": "L", "RULE": "R", "MORE": "M", "NOT": "O", "MOVE": "V", "ALARM": "A"}
)

// readLine lays what a line says into an event, by patterns, and tells its letter.
func readLine(e *api.Event, whole string) (string, bool) {
	parts := pairForm.FindStringSubmatch(whole)
	if parts == nil {
		return "", false
	}
	key, value := parts[1], parts[2]
	asTime, noTime := clock.Parse(value)
	ok := true
	switch key {
	case "NAME":
		e.Name = value
	case "TEXT":
		ok = textForm.MatchString(value)
		e.Text = strings.NewReplacer(`\\`, `\`, `\;`, `;`, `\,`, `,`, `\n`, "\n").Replace(value)
	case "START":
		e.Start, ok = asTime, noTime == nil
	case "LENGTH":
		n, err := clock.Span(value)
		e.Length, ok = n, err == nil
	case "RULE":
		r, err := rule.Parse(value)
		e.Repeats, e.Rule, ok = true, r, err == nil
	case "MORE":
		e.More, ok = append(e.More, asTime), noTime == nil
	case "NOT":
		e.Not, ok = append(e.Not, asTime), noTime == nil
	case "MOVE":
		ok = readMove(e, moveForm.FindStringSubmatch(value))
	case "ALARM":
		ok = readAlarm(e, alarmForm.FindStringSubmatch(value))
	}
	return letterOf[key], ok
}

func readMove(e *api.Event, parts []string) bool {
	if parts == nil {
		return false
	}
	at, noAt := clock.Parse(parts[1])
	to, noTo := clock.Parse(parts[2])
	e.Changes = append(e.Changes, api.Change{At: at, To: to})
	return noAt == nil && (noTo == nil || parts[2] == "-")
}

func readAlarm(e *api.Event, parts []string) bool {
	if parts == nil {
		return false
	}
	offset, noOffset := clock.Span(parts[1])
	repeat, noRepeat := strconv.Atoi(parts[3])
	between, noBetween := clock.Span(parts[4])
	e.Alarms = append(e.Alarms, api.Alarm{Offset: offset, End: parts[2] == "e", Repeat: repeat, Between: between})
	return noOffset == nil && noRepeat == nil && noBetween == nil
}

// hold Parse against K2; and what it reads is printed just so again.
func hold(t *testing.T, text string) {
	t.Helper()
	e, n, err := card.Parse(text)
	want := understood(text)
	if !same(e, want.e) || n != want.n || !isTold(err, want.err) {
		t.Errorf("Parse(%q): got %+v, %d, %v, want %+v", text, e, n, err, want)
	}
	if err != nil {
		return
	}
	if again, err := card.Print(e); again != text || err != nil {
		t.Errorf("Print of Parse(%q): got %q, %v", text, again, err)
	}
}

var rulesDrawn = []string{
	"daily", "daily every 2", "daily count 200", "daily on mo,fr", "daily months 2,11 days -1,1", "weekly", "weekly every 50 until 2199-12-31 on mo,we,su", "weekly months 1,2,3",
	"monthly", "monthly days -1,1,15", "monthly every 2 on 1mo,-1fr", "monthly on mo,tu,we,th,fr pick -1", "monthly every 2 count 10 months 1,2", "monthly every 2 count 10 months 1,12", "monthly every 2 count 10 months 12",
	"yearly", "yearly months 2 days 29", "yearly every 2 months 1,2,3,4,5,6,7,8,9,10,11,12 on mo", "yearly every 49 until 2026-11-18 months 1,2,3,4,5,6,7,8,9,10,11,12 days -31,-30,1,2 on -5mo,5mo,tu pick -31,31",
}

func drawText(random *rand.Rand) string {
	text := make([]byte, []int{0, 1, 5, 33 + random.IntN(5), random.IntN(61), 60}[random.IntN(6)])
	marks := random.IntN(101)
	for i := range text {
		text[i] = byte(32 + random.IntN(95))
		if random.IntN(100) < marks {
			text[i] = `\;, n`[random.IntN(5)]
		}
	}
	return string(text)
}

func drawTimes(random *rand.Rand) []int {
	var list []int
	for range []int{0, 0, 1, 2, random.IntN(9)}[random.IntN(5)] {
		list = append(list, []int{1, monday, tuesday, lastTime, 1 + random.IntN(lastTime), monday + random.IntN(1440)}[random.IntN(6)])
	}
	slices.Sort(list)
	return slices.Compact(list)
}

func drawAlarms(random *rand.Rand) []api.Alarm {
	var list []api.Alarm
	for range random.IntN(5) {
		a := api.Alarm{Offset: []int{0, -10, 30, random.IntN(200001) - 100000, 100000, -100000}[random.IntN(6)], End: random.IntN(2) == 0}
		if random.IntN(2) == 0 {
			a.Repeat, a.Between = 1+random.IntN(5), 1+random.IntN(10000)
		}
		list = append(list, a)
	}
	return list
}

func draw(random *rand.Rand) api.Event {
	e := api.Event{
		Name: "abcdefgz"[random.IntN(8):], Text: drawText(random), Start: 1 + random.IntN(lastTime), Length: []int{0, 60, 90, random.IntN(100001)}[random.IntN(4)],
		More: drawTimes(random), Not: drawTimes(random), Alarms: drawAlarms(random),
	}
	if random.IntN(3) > 0 {
		e.Repeats = true
		e.Rule, _ = rule.Parse(rulesDrawn[random.IntN(len(rulesDrawn))])
	}
	for _, at := range drawTimes(random) {
		e.Changes = append(e.Changes, api.Change{At: at, To: []int{0, 1, at, lastTime, 1 + random.IntN(lastTime)}[random.IntN(5)]})
	}
	return e
}

// Parse of what Print tells is the event.
func TestDrawnEvents(t *testing.T) {
	random := rand.New(rand.NewPCG(12, 1))
	for range 20000 {
		e := draw(random)
		text, err := card.Print(e)
		if want := told(e); text != want || err != nil {
			t.Fatalf("Print(%+v): got %q, %v, want %q", e, text, err, want)
		}
		wantRead(t, text, e)
		hold(t, text)
	}
}

// Each byte of a text is left out, laid over and laid in.
func TestEachByteOfAText(t *testing.T) {
	e := crowded()
	e.Text = counted(34) + ",  x" // a mark at the end of a piece, and blanks
	e.Rule, _ = rule.Parse("monthly every 2 count 10 months 1,2,3")
	text, _ := card.Print(e)
	for place := range len(text) + 1 {
		for _, sign := range []byte("\n :>-+0159,\\AaNesx\xff") {
			hold(t, text[:place]+string([]byte{sign})+text[place:])
			if place < len(text) {
				hold(t, text[:place]+string([]byte{sign})+text[place+1:])
			}
		}
		hold(t, text[:place])
		hold(t, text[place:])
		if place < len(text) {
			hold(t, text[:place]+text[place+1:])
		}
	}
}

// spoil a text: its lines, its pieces or its bytes.
func spoil(random *rand.Rand, text string) string {
	pieces := strings.SplitAfter(text, "\n")
	a, b := random.IntN(len(pieces)), random.IntN(len(pieces))
	cut := random.IntN(len(text) + 1)
	switch random.IntN(9) {
	case 0:
		return strings.Join(slices.Delete(pieces, a, a+1), "")
	case 1:
		pieces[a], pieces[b] = pieces[b], pieces[a]
	case 2:
		return strings.Join(slices.Insert(pieces, a, pieces[b]), "")
	case 3:
		pieces[a] = oddLines[random.IntN(len(oddLines))]
	case 4:
		return strings.Join(slices.Insert(pieces, a, oddLines[random.IntN(len(oddLines))]), "")
	case 5:
		return text[:cut] + string([]byte{"\n \\:>-sex0129NA\xff"[random.IntN(16)]}) + text[cut:]
	case 6:
		return text[:cut] + text[min(cut+1+random.IntN(3), len(text)):]
	case 7:
		return strings.TrimSuffix(text, "\n")
	case 8:
		return text[:cut] + "\n " + text[cut:]
	}
	return strings.Join(pieces, "")
}

var oddLines = []string{
	"\n", " \n", " x\n", "x\n", "NAME:\n", "NAME:b\n", "TEXT:\n", "TEXT:y\n", "TEXT:\\\n", "TEXT:\\n\n", "START:2026-11-18 24:00\n", "START:2026-11-18 09:30\n", "LENGTH:-1m\n", "LENGTH:695d\n", "LENGTH:1h\n",
	"RULE:daily\n", "RULE:daily pick 1\n", "MORE:2026-11-31 09:30\n", "MORE:2026-11-18 09:30\n", "NOT:2026-11-18 09:30\n", "NOT:-\n", "MOVE:2026-11-18 09:30>-\n", "MOVE:->-\n", "MOVE:2026-11-18 09:30\n",
	"ALARM:0m s 0 0m\n", "ALARM:0m s -1 0m\n", "ALARM:0m s +1 1m\n", "ALARM:0m x 0 0m\n", "ALARM:1m e 6 1m\n", "alarm:0m s 0 0m\n", "ALARM:0m s 0 0m", "OTHER:x\n",
}

func TestDrawnTexts(t *testing.T) {
	random := rand.New(rand.NewPCG(12, 2))
	told := map[api.Errno]int{}
	for range 30000 {
		text, _ := card.Print(draw(random))
		for range 1 + random.IntN(3) {
			text = spoil(random, text)
			hold(t, text)
		}
		_, _, err := card.Parse(text)
		told[plain.Told(err)]++
	}
	for _, no := range []api.Errno{api.OK, api.ErrSyntax, api.ErrRange, api.ErrClash, api.ErrFull} {
		if told[no] < 20 {
			t.Errorf("%v was told %d times: what is drawn does not come there", no, told[no])
		}
	}
}

// Short texts of the bytes that part things.
func TestEachShortText(t *testing.T) {
	texts := []string{""}
	for range 6 {
		var longer []string
		for _, text := range texts {
			for _, piece := range []string{"\n", " ", ":", "NAME", "x"} {
				longer = append(longer, text+piece)
			}
		}
		for _, text := range longer {
			hold(t, text)
			hold(t, must+text)
		}
		texts = longer
	}
}

// The reference's way to fold is the one of chapter 11.
func TestReferenceFolds(t *testing.T) {
	for many := range 200 {
		if got, want := folded(counted(many)), strings.Join(line.Fold(counted(many)), "\n")+"\n"; got != want {
			t.Errorf("%d bytes: got %q, want %q", many, got, want)
		}
	}
}
