package log_test

import (
	"slices"
	"testing"

	"chimework/api"
	"chimework/desk"
	"chimework/plain"
)

// book says G1 and G2, word by word: the asks that were done, and how many bytes each made. All else comes of them.
type book struct {
	zone  api.Zone
	asks  []api.Ask
	sizes []int
	// How many asks are safe, and how many bytes belong to no whole record.
	safe, half int
	// How many steps are left till the one that stops it; below 0: it does not.
	left    int
	stopped bool
	// The desk of the asks.
	desk *desk.Desk
}

func bookOf(t *testing.T, z api.Zone) *book {
	t.Helper()
	return &book{zone: z, left: -1, desk: deskOf(t, z)}
}

func sum(list []int) int {
	n := 0
	for _, size := range list {
		n += size
	}
	return n
}

// do what is asked; how many bytes it made is told behind it, by made.
func (b *book) do(t *testing.T, a api.Ask) ([]api.Ring, api.Errno) {
	t.Helper()
	if b.stopped {
		return nil, api.ErrState
	}
	if b.left == 0 {
		// Another desk of the same asks, since this one is to be as it is.
		if _, err := deskOf(t, b.zone, b.asks...).Do(a); err != nil {
			return nil, plain.Told(err)
		}
		b.stopped = true
		b.half = sizeOf(t, b.zone, b.asks, a) / 2
		return nil, api.ErrState
	}
	told, err := b.desk.Do(a)
	if err == nil {
		b.asks = append(b.asks, a)
		b.left--
	}
	return told, plain.Told(err)
}

// made so many bytes by the asks that have not told it yet: none, or the last one.
func (b *book) made(bytes int) {
	if len(b.sizes) < len(b.asks) {
		b.sizes = append(b.sizes, bytes)
	}
}

func (b *book) sync() api.Errno {
	if b.stopped || b.left == 0 {
		b.stopped = true
		return api.ErrState
	}
	b.safe = len(b.asks)
	b.left--
	return api.OK
}

func (b *book) fail(n int) { b.left = n }

func (b *book) crash(t *testing.T, keep int) {
	t.Helper()
	many := b.safe
	for many < len(b.asks) && keep >= b.sizes[many] {
		keep -= b.sizes[many]
		many++
	}
	b.asks, b.sizes = slices.Clone(b.asks[:many]), slices.Clone(b.sizes[:many])
	b.safe, b.half = many, 0
	b.left, b.stopped = -1, false
	b.desk = deskOf(t, b.zone, b.asks...)
}

func (b *book) bytes() int     { return sum(b.sizes) + b.half }
func (b *book) safeBytes() int { return sum(b.sizes[:b.safe]) }
