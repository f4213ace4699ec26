package alarm_test

import (
	"math"
	"testing"

	"chimework/alarm"
	"chimework/api"
)

func wantOrder(t *testing.T, a, b api.Ring, want int) {
	t.Helper()
	if got := alarm.Order(a, b); got != want {
		t.Errorf("Order(%+v, %+v): got %d, want %d", a, b, got, want)
	}
}

// wantBelow asks both ways round.
func wantBelow(t *testing.T, a, b api.Ring) {
	t.Helper()
	wantOrder(t, a, b, -1)
	wantOrder(t, b, a, 1)
	wantOrder(t, a, a, 0)
	wantOrder(t, b, b, 0)
}

var numbersRising = []int{math.MinInt, math.MinInt + 1, math.MinInt32, -2, -1, 0, 1, 2, 9, 10, 66730170, math.MaxInt32, math.MaxInt - 1, math.MaxInt}

// Texts are bytes: one that begins another one is ahead of it, and what is no letter counts as it is.
var namesRising = []string{"", "\x00", "A", "B", "Z", "a", "a\x00", "aa", "aaa", "ab", "b", "ba", "meet", "meets", "zzzzzzzz", "\x7f", "é", "\xff", "\xff\x00"}

// setters of what a ring is told by, in the order in which that counts: each takes how far it is in its list.
var setters = []struct {
	what string
	many int
	set  func(r *api.Ring, i int)
}{
	{"At", len(numbersRising), func(r *api.Ring, i int) { r.At = numbersRising[i] }},
	{"Name", len(namesRising), func(r *api.Ring, i int) { r.Name = namesRising[i] }},
	{"Which", len(numbersRising), func(r *api.Ring, i int) { r.Which = numbersRising[i] }},
	{"Alarm", len(numbersRising), func(r *api.Ring, i int) { r.Alarm = numbersRising[i] }},
	{"Turn", len(numbersRising), func(r *api.Ring, i int) { r.Turn = numbersRising[i] }},
}

var someRings = []api.Ring{
	{},
	{At: 66730170, Name: "meet", Which: 66730200, Alarm: 3, Turn: 5},
	{At: math.MinInt, Name: "a", Which: math.MinInt, Alarm: math.MinInt, Turn: math.MinInt},
	{At: math.MaxInt, Name: "\xff", Which: math.MaxInt, Alarm: math.MaxInt, Turn: math.MaxInt},
}

func TestOrderOfTheSame(t *testing.T) {
	for _, r := range someRings {
		wantOrder(t, r, r, 0)
		again := r
		again.Name = string([]byte(r.Name))
		wantOrder(t, r, again, 0)
	}
}

// Rings that differ in one thing alone.
func TestOrderByOne(t *testing.T) {
	for _, s := range setters {
		for _, base := range someRings {
			for i := range s.many {
				for j := range i {
					low, high := base, base
					s.set(&low, j)
					s.set(&high, i)
					wantBelow(t, low, high)
				}
			}
		}
	}
}

// Rings that differ in several things: the first of them counts, though all behind it are the other way round.
func TestOrderByTheFirst(t *testing.T) {
	for k, first := range setters {
		for _, base := range someRings {
			for _, second := range setters[k+1:] {
				for i := 1; i < first.many; i++ {
					low, high := base, base
					first.set(&low, i-1)
					first.set(&high, i)
					for j := 1; j < second.many; j++ {
						second.set(&low, j)
						second.set(&high, j-1)
						wantBelow(t, low, high)
					}
					second.set(&low, second.many-1)
					second.set(&high, 0)
					wantBelow(t, low, high)
				}
			}
			low, high := base, base
			first.set(&low, first.many/2)
			first.set(&high, first.many/2+1)
			for _, behind := range setters[k+1:] {
				behind.set(&low, behind.many-1)
				behind.set(&high, 0)
			}
			wantBelow(t, low, high)
		}
	}
}
