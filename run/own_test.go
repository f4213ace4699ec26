package run_test

import (
	"sync"
	"testing"

	"chimework/run"
)

// Nothing is kept from one call to the next: no event, no ring, no time.
func TestNothingIsKept(t *testing.T) {
	s := parse(t, taken)
	whole, want := text(s.lines...), text(s.answers...)
	for range 3 {
		wantRun(t, whole, want)
		wantRun(t, "rung\nnext a 2026-11-17 09:00\nalarm a 0m\ndrop a\ntick 1900-01-01 00:01\ndrop b\n", "0\nErrNone\nErrNone\nErrNone\n-\nErrNone\n")
		wantRun(t, "tick 2199-12-31 23:59\n", "-\n")
		wantRun(t, "fly", "bad\n")
		wantRun(t, "", "")
	}
	// 20 events in each call.
	for range 3 {
		var lines, answers []string
		for _, name := range names(20) {
			lines, answers = append(lines, "put "+name+" 2026-11-16 09:30 1h"), append(answers, "ok")
		}
		wantRun(t, text(lines...), text(answers...))
	}
}

// Calls that go on together do nothing to one another.
func TestTogether(t *testing.T) {
	s := parse(t, taken)
	var group sync.WaitGroup
	for range 8 {
		group.Go(func() {
			for range 20 {
				for many := range len(s.lines) {
					if got, want := run.Run(text(s.lines[:many]...)), text(s.answers[:many]...); got != want {
						t.Errorf("got %q, want %q", got, want)
					}
				}
			}
		})
	}
	group.Wait()
}
