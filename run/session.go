package run

import (
	"strconv"
	"strings"

	"chimework/api"
	"chimework/clock"
	"chimework/day"
	"chimework/desk"
	"chimework/month"
	"chimework/times"
	"chimework/week"
)

const (
	ringGap   = ","
	ringTime  = "@"
	noRing    = "-"
	leafGap   = "|"
	answerGap = " "
)

// session of one text.
type session struct {
	zone api.Zone
	desk *desk.Desk
}

func newSession() *session {
	// Nothing is wrong with a zone that has no shifts and is 0 ahead.
	var z api.Zone
	d, _ := desk.New(z)
	return &session{zone: z, desk: d}
}

// do what a line asks for, and tell its answer.
func (s *session) do(line string) (string, error) {
	word, r := begin(line)
	switch word {
	case "day":
		return tellDay(r)
	case "add":
		return tellSum(r)
	case "put":
		return s.putOnce(r)
	case "every":
		return s.putEvery(r)
	case "alarm":
		return s.addAlarm(r)
	case "drop":
		return s.drop(r)
	case "tick":
		return s.tick(r)
	case "rung":
		return s.tellRung(r)
	case "next":
		return s.tellNext(r)
	case "leaf":
		return tellLeaf(r)
	}
	return "", unread{api.ErrSyntax}
}

// tellDay tells which weekday a day is, and of which week.
func tellDay(r *reading) (string, error) {
	t := r.time()
	if err := r.close(); err != nil {
		return "", err
	}
	n, _, err := clock.Split(t)
	if err != nil {
		return "", err
	}
	weekday, err := day.Weekday(n)
	if err != nil {
		return "", err
	}
	year, number, err := week.Week(n)
	if err != nil {
		return "", err
	}
	return strings.Join([]string{strconv.Itoa(weekday), strconv.Itoa(year), strconv.Itoa(number)}, answerGap), nil
}

// tellSum of a time and a span.
func tellSum(r *reading) (string, error) {
	t := r.time()
	minutes := r.span()
	if err := r.close(); err != nil {
		return "", err
	}
	sum, err := clock.Add(t, minutes)
	if err != nil {
		return "", err
	}
	return clock.Print(sum)
}

// putOnce puts an event that comes once.
func (s *session) putOnce(r *reading) (string, error) {
	e := readEvent(r)
	if err := r.close(); err != nil {
		return "", err
	}
	return s.take(api.Ask{What: api.Put, Event: e})
}

// putEvery puts an event that comes again.
func (s *session) putEvery(r *reading) (string, error) {
	e := readEvent(r)
	e.Repeats, e.Rule = true, r.rule()
	if err := r.close(); err != nil {
		return "", err
	}
	return s.take(api.Ask{What: api.Put, Event: e})
}

// readEvent that comes once.
func readEvent(r *reading) api.Event {
	name := r.word()
	start := r.time()
	return api.Event{Name: name, Start: start, Length: r.span()}
}

// addAlarm puts an event again, with one alarm more.
func (s *session) addAlarm(r *reading) (string, error) {
	name := r.word()
	offset := r.span()
	if err := r.close(); err != nil {
		return "", err
	}
	e, err := s.desk.Event(name)
	if err != nil {
		return "", err
	}
	e.Alarms = append(e.Alarms, api.Alarm{Offset: offset})
	return s.take(api.Ask{What: api.Put, Event: e})
}

// drop the event of a name.
func (s *session) drop(r *reading) (string, error) {
	name := r.word()
	if err := r.close(); err != nil {
		return "", err
	}
	return s.take(api.Ask{What: api.Drop, Name: name})
}

// take asks the desk for what tells nothing.
func (s *session) take(a api.Ask) (string, error) {
	if _, err := s.desk.Do(a); err != nil {
		return "", err
	}
	return taken, nil
}

// tick on, and tell what rings.
func (s *session) tick(r *reading) (string, error) {
	to := r.time()
	if err := r.close(); err != nil {
		return "", err
	}
	rings, err := s.desk.Do(api.Ask{What: api.Tick, N: to})
	if err != nil {
		return "", err
	}
	return printRings(rings)
}

// printRings that a tick tells.
func printRings(rings []api.Ring) (string, error) {
	if len(rings) == 0 {
		return noRing, nil
	}
	var texts []string
	for _, r := range rings {
		at, err := clock.Print(r.At)
		if err != nil {
			return "", err
		}
		texts = append(texts, r.Name+ringTime+at)
	}
	return strings.Join(texts, ringGap), nil
}

// tellRung tells how many have rung.
func (s *session) tellRung(r *reading) (string, error) {
	if err := r.close(); err != nil {
		return "", err
	}
	return strconv.Itoa(len(s.desk.Rung())), nil
}

// tellNext tells when an event comes next.
func (s *session) tellNext(r *reading) (string, error) {
	name := r.word()
	after := r.time()
	if err := r.close(); err != nil {
		return "", err
	}
	e, err := s.desk.Event(name)
	if err != nil {
		return "", err
	}
	next, err := times.Next(s.zone, e, after)
	if err != nil {
		return "", err
	}
	return clock.Print(next.From)
}

// tellLeaf of a month.
func tellLeaf(r *reading) (string, error) {
	year := r.number()
	number := r.number()
	if err := r.close(); err != nil {
		return "", err
	}
	weeks, err := month.Leaf(year, number)
	if err != nil {
		return "", err
	}
	return strings.Join(weeks, leafGap), nil
}
