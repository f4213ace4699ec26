package lists_test

import (
	"testing"

	"chimework/lists"
)

func TestAll(t *testing.T) {
	cases := []struct {
		list []int
		want bool
	}{
		{nil, true}, {[]int{}, true}, {[]int{2}, true}, {[]int{2, 4, 6}, true},
		{[]int{1}, false}, {[]int{1, 2, 4}, false}, {[]int{2, 3, 4}, false}, {[]int{2, 4, 5}, false}, {[]int{1, 3}, false},
		{[]int{2, 4, 5}[:2], true},
	}
	for _, c := range cases {
		if got := lists.All(c.list, func(n int) bool { return n%2 == 0 }); got != c.want {
			t.Errorf("All(%v): got %v, want %v", c.list, got, c.want)
		}
	}
}

func TestRises(t *testing.T) {
	cases := []struct {
		list []int
		want bool
	}{
		{nil, true}, {[]int{}, true}, {[]int{2}, true}, {[]int{1, 2}, true}, {[]int{-3, 0, 7}, true},
		{[]int{1, 1}, false}, {[]int{2, 1}, false}, {[]int{1, 2, 2}, false}, {[]int{2, 2, 3}, false}, {[]int{1, 3, 2}, false}, {[]int{2, 1, 3}, false},
		{[]int{1, 2, 2}[:2], true},
	}
	for _, c := range cases {
		if got := lists.Rises(c.list, func(a, b int) bool { return a > b }); got != c.want {
			t.Errorf("Rises(%v): got %v, want %v", c.list, got, c.want)
		}
	}
}
