package log

import (
	"strconv"
	"strings"

	"chimework/api"
	"chimework/card"
)

const (
	wordGap = " "
	// recordEnd stands in no word, so what was cut off is known by it: it has none.
	recordEnd = "\x00"
)

// recordOf an ask that was done: its What and what that one asks for. All else may be anything, and is not written.
func recordOf(a api.Ask) string {
	words := []string{strconv.Itoa(a.What)}
	switch a.What {
	case api.Put:
		// It was put, so it has no error.
		text, _ := card.Print(a.Event)
		words = append(words, text)
	case api.Drop:
		words = append(words, a.Name)
	case api.Tick:
		words = append(words, strconv.Itoa(a.N))
	case api.Done:
		words = append(words, wordsOf(a.Ring))
	case api.Snooze:
		words = append(words, strconv.Itoa(a.N), wordsOf(a.Ring))
	}
	return strings.Join(words, wordGap) + recordEnd
}

// askOf a record, without its end.
func askOf(record string) api.Ask {
	what, rest, _ := strings.Cut(record, wordGap)
	a := api.Ask{What: number(what)}
	switch a.What {
	case api.Put:
		a.Event, _, _ = card.Parse(rest)
	case api.Drop:
		a.Name = rest
	case api.Tick:
		a.N = number(rest)
	case api.Done:
		a.Ring = ringOf(rest)
	case api.Snooze:
		minutes, ring, _ := strings.Cut(rest, wordGap)
		a.N, a.Ring = number(minutes), ringOf(ring)
	}
	return a
}

// wordsOf a ring that has rung: its name is an event's, so it is one word.
func wordsOf(r api.Ring) string {
	words := []string{r.Name}
	for _, n := range [4]int{r.At, r.Which, r.Alarm, r.Turn} {
		words = append(words, strconv.Itoa(n))
	}
	return strings.Join(words, wordGap)
}

// ringOf its words.
func ringOf(words string) api.Ring {
	name, rest, _ := strings.Cut(words, wordGap)
	var numbers [4]int
	for i := range numbers {
		var word string
		word, rest, _ = strings.Cut(rest, wordGap)
		numbers[i] = number(word)
	}
	return api.Ring{Name: name, At: numbers[0], Which: numbers[1], Alarm: numbers[2], Turn: numbers[3]}
}

// number that a record has: there it is well written.
func number(word string) int {
	n, _ := strconv.Atoi(word)
	return n
}
