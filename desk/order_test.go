package desk_test

import (
	"slices"
	"strings"

	"chimework/api"
)

// byFields says chapter 10's Order, field by field.
func byFields(a, b api.Ring) int {
	if a.At != b.At {
		return slices.Compare([]int{a.At}, []int{b.At})
	}
	if a.Name != b.Name {
		return strings.Compare(a.Name, b.Name)
	}
	return slices.Compare([]int{a.Which, a.Alarm, a.Turn}, []int{b.Which, b.Alarm, b.Turn})
}
