// Package lists asks of a whole list what it must be.
package lists

// All tells whether each item fits.
func All[T any](list []T, fits func(T) bool) bool {
	for _, item := range list {
		if !fits(item) {
			return false
		}
	}
	return true
}

// Rises tells whether each item is above the one ahead: one that is the same is not.
func Rises[T any](list []T, above func(a, b T) bool) bool {
	for i := 1; i < len(list); i++ {
		if !above(list[i], list[i-1]) {
			return false
		}
	}
	return true
}
