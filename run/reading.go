package run

import (
	"strconv"
	"strings"

	"chimework/api"
	"chimework/clock"
	"chimework/rule"
)

const (
	wordGap    = " "
	timeLength = 16          // a time has a blank itself, so it is no word
	mostNumber = 999_999_999 // the greatest of nine digits
)

// unread ends the reading of a line: something in it could not be read, and what it embeds tells why.
type unread struct{ error }

// Unwrap it.
func (u unread) Unwrap() error { return u.error }

// reading of a line: what is left of it, and what ended it first.
type reading struct {
	left  string
	ended error
}

// begin to read a line: its first word, and the reading of what stands behind that.
func begin(line string) (string, *reading) {
	r := &reading{left: line}
	return r.upToGap(), r
}

// end it, unless it has ended already.
func (r *reading) end(err error) {
	if r.ended == nil {
		r.ended = unread{err}
	}
}

// close it: an error if something could not be read, or is left.
func (r *reading) close() error {
	if r.left != "" {
		r.end(api.ErrSyntax)
	}
	return r.ended
}

// word that stands next, which may be empty.
func (r *reading) word() string {
	r.skipGap()
	return r.upToGap()
}

func (r *reading) time() int {
	r.skipGap()
	return value(r, r.cut(timeLength), clock.Parse)
}

func (r *reading) span() int { return value(r, r.word(), clock.Span) }

func (r *reading) number() int { return value(r, r.word(), parseNumber) }

// rule is all that is left.
func (r *reading) rule() api.Rule {
	r.skipGap()
	return value(r, r.cut(len(r.left)), rule.Parse)
}

// value of a piece, as it is parsed.
func value[T any](r *reading, piece string, parse func(string) (T, error)) T {
	v, err := parse(piece)
	if err != nil {
		r.end(err)
	}
	return v
}

// skipGap that must stand ahead of what is read next.
func (r *reading) skipGap() {
	left, ok := strings.CutPrefix(r.left, wordGap)
	if !ok {
		r.end(api.ErrSyntax)
	}
	r.left = left
}

// upToGap cuts off what stands ahead of the next gap, or all if there is none.
func (r *reading) upToGap() string {
	ahead, _, _ := strings.Cut(r.left, wordGap)
	return r.cut(len(ahead))
}

// cut off so many bytes, or all if there are not so many.
func (r *reading) cut(length int) string {
	length = min(length, len(r.left))
	piece := r.left[:length]
	r.left = r.left[length:]
	return piece
}

// parseNumber takes none with a sign. The number, written again, is held against the word: so no 0 is needless.
func parseNumber(word string) (int, error) {
	n, err := strconv.Atoi(word)
	if err != nil || n < 0 || n > mostNumber || strconv.Itoa(n) != word {
		return 0, api.ErrSyntax
	}
	return n, nil
}
