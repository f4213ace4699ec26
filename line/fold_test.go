package line_test

import (
	"math/rand/v2"
	"slices"
	"strings"
	"testing"

	"chimework/api"
	"chimework/line"
	"chimework/plain"
)

// The number is written out, so that it is held against one that the program did not work out.
const mostPiece = 40

// counted makes a text of so many bytes, none of them a blank, neighbours differing.
func counted(many int) string {
	const letters = "abcdefghijklmnopqrstuvwxyz0123456789"
	return strings.Repeat(letters, many/len(letters)+1)[:many]
}

// lengths of pieces.
func lengths(pieces []string) []int {
	list := []int{}
	for _, p := range pieces {
		list = append(list, len(p))
	}
	return list
}

func wantUnfolded(t *testing.T, pieces []string, want string) {
	t.Helper()
	if got, err := line.Unfold(pieces); got != want || err != nil {
		t.Errorf("Unfold(%q): got %q, %v, want %q", pieces, got, err, want)
	}
}

// wantFolded asks for both ways.
func wantFolded(t *testing.T, s string, want ...string) {
	t.Helper()
	if got := line.Fold(s); !slices.Equal(got, want) {
		t.Errorf("Fold(%q): got %q, want %q", s, got, want)
	}
	wantUnfolded(t, want, s)
}

func wantNotUnfolded(t *testing.T, pieces ...string) {
	t.Helper()
	if got, err := line.Unfold(pieces); got != "" || plain.Told(err) != api.ErrSyntax {
		t.Errorf("Unfold(%q): got %q, %v, want none, ErrSyntax", pieces, got, err)
	}
}

// holdFolded holds what L1 says of pieces, word by word, against what Fold tells of a text.
func holdFolded(t *testing.T, s string) {
	t.Helper()
	pieces := line.Fold(s)
	if len(pieces) == 0 {
		t.Fatalf("Fold(%q): got no piece", s)
	}
	text := pieces[0]
	for i, p := range pieces {
		last := i == len(pieces)-1
		if len(p) > mostPiece || !last && len(p) != mostPiece {
			t.Fatalf("Fold(%q): got pieces of %v bytes", s, lengths(pieces))
		}
		if i == 0 {
			continue
		}
		if p[0] != ' ' || len(p) < 2 {
			t.Fatalf("Fold(%q): got the piece %q", s, p)
		}
		text += p[1:]
	}
	if text != s {
		t.Fatalf("Fold(%q): got %q", s, pieces)
	}
	wantUnfolded(t, pieces, s)
}

func TestFoldAndUnfold(t *testing.T) {
	s := counted(200)
	wantFolded(t, "", "")
	wantFolded(t, "a", "a")
	wantFolded(t, " ", " ")
	wantFolded(t, "\n", "\n")
	wantFolded(t, "two words", "two words")
	wantFolded(t, s[:39], s[:39])
	wantFolded(t, s[:40], s[:40])
	wantFolded(t, s[:41], s[:40], " "+s[40:41])
	wantFolded(t, s[:42], s[:40], " "+s[40:42])
	wantFolded(t, s[:78], s[:40], " "+s[40:78])
	wantFolded(t, s[:79], s[:40], " "+s[40:79])
	wantFolded(t, s[:80], s[:40], " "+s[40:79], " "+s[79:80])
	wantFolded(t, s[:117], s[:40], " "+s[40:79], " "+s[79:117])
	wantFolded(t, s[:118], s[:40], " "+s[40:79], " "+s[79:118])
	wantFolded(t, s[:119], s[:40], " "+s[40:79], " "+s[79:118], " "+s[118:119])
	wantFolded(t, s[:157], s[:40], " "+s[40:79], " "+s[79:118], " "+s[118:157])
	wantFolded(t, s[:158], s[:40], " "+s[40:79], " "+s[79:118], " "+s[118:157], " "+s[157:158])
	wantFolded(t, "TEXT:0123456789012345678901234567890123456789",
		"TEXT:01234567890123456789012345678901234", " 56789")
}

func TestHowLongThePiecesAre(t *testing.T) {
	for many, want := range map[int][]int{
		0: {0}, 1: {1}, 39: {39}, 40: {40}, 41: {40, 2}, 78: {40, 39}, 79: {40, 40}, 80: {40, 40, 2}, 118: {40, 40, 40}, 119: {40, 40, 40, 2},
	} {
		if got := lengths(line.Fold(counted(many))); !slices.Equal(got, want) {
			t.Errorf("Fold of %d bytes: got pieces of %v, want %v", many, got, want)
		}
	}
}

// Bytes are counted, not what they stand for, and a cut takes no heed of what it parts.
func TestWhatACutParts(t *testing.T) {
	a := strings.Repeat("a", 38)
	wantFolded(t, a+"  ", a+"  ")
	wantFolded(t, a+"   ", a+"  ", "  ")
	wantFolded(t, a+"    b", a+"  ", "   b")
	wantFolded(t, a+"b c", a+"b ", " c")
	wantFolded(t, a+"bc d", a+"bc", "  d")
	wantFolded(t, a+`b\;c`, a+`b\`, " ;c")
	wantFolded(t, a+`b\nc`, a+`b\`, " nc")
	wantFolded(t, a+`b\\`, a+`b\`, ` \`)
	wantFolded(t, a+"\r\n\r\n", a+"\r\n", " \r\n")
	wantFolded(t, a+"büc", a+"b\xc3", " \xbcc")
	wantFolded(t, a+"b\x00\x00", a+"b\x00", " \x00")
	wantFolded(t, a+"bc"+a+` \`, a+"bc", " "+a+" ", ` \`)
	blanks := strings.Repeat(" ", 200)
	wantFolded(t, blanks[:39], blanks[:39])
	wantFolded(t, blanks[:40], blanks[:40])
	wantFolded(t, blanks[:41], blanks[:40], "  ")
	wantFolded(t, blanks[:79], blanks[:40], blanks[:40])
	wantFolded(t, blanks[:80], blanks[:40], blanks[:40], "  ")
}

// A first piece that begins with a blank has it of the text.
func TestFirstPieceWithABlank(t *testing.T) {
	s := counted(100)
	wantFolded(t, " a", " a")
	wantFolded(t, "  ", "  ")
	wantFolded(t, " "+s[:39], " "+s[:39])
	wantFolded(t, " "+s[:40], " "+s[:39], " "+s[39:40])
	wantFolded(t, " "+s[:78], " "+s[:39], " "+s[39:78])
	wantNotUnfolded(t, " a", " b")
	wantNotUnfolded(t, " "+s[:40])
}

func TestEachLength(t *testing.T) {
	for many := range 1000 {
		holdFolded(t, counted(many))
		holdFolded(t, strings.Repeat(" ", many))
		holdFolded(t, strings.Repeat(" a", many/2))
		holdFolded(t, strings.Repeat("\\\n", many/2))
	}
	for b := range 256 {
		holdFolded(t, strings.Repeat(string([]byte{byte(b)}), 130))
	}
	holdFolded(t, allBytes())
}

func TestPiecesThatAreNone(t *testing.T) {
	s := counted(200)
	first, middle := s[:40], " "+s[:39]
	for what, rows := range map[string][][]string{
		"no piece, or empty ones":                {{}, {"", ""}, {"", "", ""}, {"", " "}, {"", " a"}, {"", "a"}, {"a", ""}, {"", first, middle}},
		"one that is too long":                   {{s[:41]}, {s[:80]}, {first + middle}, {first + "\n" + middle}},
		"a first one that is too short":          {{"a", " "}, {"a", " b"}, {" ", " "}, {"", middle}, {s[:39], " a"}, {s[:39], middle}, {s[:39], middle, " a"}, {"a", first, middle}},
		"a first one that is too long":           {{s[:41], " a"}, {s[:41], middle}, {s[:41], middle, " a"}, {first + "\n", middle}},
		"a middle one that is too short":         {{first, middle[:39], " a"}, {first, middle, middle[:39], " a"}, {first, " ", " a"}, {first, "", " a"}, {first, middle, "", middle}, {first, " a", " b"}, {first, middle, " a", middle}},
		"a middle one that is too long":          {{first, middle + "x", " a"}, {first, middle, middle + "x", " a"}, {first, "  " + s[:39], " a"}},
		"a last one that is a blank":             {{first, " "}, {first, middle, " "}, {strings.Repeat(" ", 40), " "}, {strings.Repeat(" ", 40), strings.Repeat(" ", 40), " "}},
		"a last one that is empty":               {{first, ""}, {first, middle, ""}, {first, middle, " a", ""}},
		"a last one that is too long":            {{first, middle + "x"}, {first, middle, middle + "x"}, {first, middle + "\n"}},
		"one that begins with no blank":          {{first, "a"}, {first, "a "}, {first, first}, {first, first, " a"}, {first, middle[1:]}, {first, middle, "a"}, {first, middle, first}, {first, middle, first, " a"}},
		"one that begins with what is no blank":  {{first, "\t" + s[:39]}, {first, "\n" + s[:39]}, {first, "\x00a"}, {first, "\xa0a"}, {first, "\u00a0a"}},
		"ones of which the blank is not counted": {{middle[1:], middle}, {first, " " + first}, {first, middle, " " + first}},
	} {
		t.Run(what, func(t *testing.T) {
			for _, pieces := range rows {
				wantNotUnfolded(t, pieces...)
			}
		})
	}
	if got, err := line.Unfold(nil); got != "" || plain.Told(err) != api.ErrSyntax {
		t.Errorf("Unfold(nil): got %q, %v, want none, ErrSyntax", got, err)
	}
}

// unfolds says by lengths and first bytes alone whether pieces are those of a text.
func unfolds(pieces []string) bool {
	for i, p := range pieces {
		if i > 0 && (len(p) < 2 || p[0] != ' ') || i < len(pieces)-1 && len(p) != mostPiece || len(p) > mostPiece {
			return false
		}
	}
	return len(pieces) > 0
}

// Each list of up to four pieces, of lengths at the edges, with a blank first and without.
func TestEachShortList(t *testing.T) {
	kinds := []string{""}
	for _, many := range []int{1, 2, 39, 40, 41} {
		kinds = append(kinds, counted(many), " "+counted(many-1))
	}
	lists, read := [][]string{nil}, 0
	for range 5 {
		var next [][]string
		for _, pieces := range lists {
			if !unfolds(pieces) {
				wantNotUnfolded(t, pieces...)
			} else {
				text := pieces[0]
				for _, p := range pieces[1:] {
					text += p[1:]
				}
				wantFolded(t, text, pieces...)
				read++
			}
			for _, kind := range kinds {
				next = append(next, append(slices.Clone(pieces), kind))
			}
		}
		lists = next
	}
	// One piece: 9 of the 11; behind it, of the 2 that are 40 bytes long, 3; with one or two middle ones the same.
	if want := 9 + 2*3*3; read != want {
		t.Errorf("got %d lists that are read, want %d", read, want)
	}
}

// spoil a list of pieces at one place.
func spoil(random *rand.Rand, pieces []string) []string {
	list := slices.Clone(pieces)
	i := random.IntN(len(list))
	switch random.IntN(6) {
	case 0:
		list[i] = strings.TrimPrefix(list[i], " ")
	case 1:
		list[i] = " " + list[i]
	case 2:
		list[i] += "x"
	case 3:
		list[i] = list[i][:max(0, len(list[i])-1)]
	case 4:
		list = slices.Delete(list, i, i+1)
	case 5:
		list = slices.Insert(list, i, list[random.IntN(len(list))])
	}
	return list
}

// Whatever Unfold reads is written just so again, and it reads all that may be read.
func TestDrawnPieces(t *testing.T) {
	random := rand.New(rand.NewPCG(11, 2))
	for range 20000 {
		s := make([]byte, random.IntN(200))
		for i := range s {
			s[i] = " ab\\\n"[random.IntN(5)]
		}
		holdFolded(t, string(s))
		pieces := spoil(random, line.Fold(string(s)))
		if !unfolds(pieces) {
			wantNotUnfolded(t, pieces...)
			continue
		}
		got, err := line.Unfold(pieces)
		if again := line.Fold(got); err != nil || !slices.Equal(again, pieces) {
			t.Fatalf("Unfold(%q): got %q, %v, of which Fold is %q", pieces, got, err, again)
		}
	}
}

func TestLongTextsFolded(t *testing.T) {
	const many = 40 + 39*50000
	s := counted(many)
	pieces := line.Fold(s)
	if len(pieces) != 50001 || len(pieces[50000]) != mostPiece {
		t.Fatalf("got %d pieces, want 50001 that are full", len(pieces))
	}
	if got, err := line.Unfold(pieces); got != s || err != nil {
		t.Errorf("Unfold of %d bytes is not the text, %v", many, err)
	}
	if got := line.Fold(s + "x"); len(got) != 50002 || got[50001] != " x" {
		t.Errorf("got %d pieces, want 50002, the last one of an x", len(got))
	}
	pieces[25000] = pieces[25000][:39]
	if got, err := line.Unfold(pieces); got != "" || plain.Told(err) != api.ErrSyntax {
		t.Errorf("got %d bytes, %v, want none, ErrSyntax", len(got), err)
	}
	if got, err := line.Unfold(make([]string, 1<<20)); got != "" || plain.Told(err) != api.ErrSyntax {
		t.Errorf("got %d bytes, %v, want none, ErrSyntax", len(got), err)
	}
}

// What was handed in stays, also where it is refused, and what stands behind its length is neither asked for nor changed.
func TestPiecesStayAsTheyAre(t *testing.T) {
	s := counted(100)
	for _, whole := range [][]string{
		{s[:40], " " + s[40:79], " " + s[79:100], "behind", ""},
		{s[:40], " " + s[40:79], " ", " behind"},
		{s[:40], s[40:79], " a", " behind"},
		{s[:41], " a", "", s},
	} {
		before := slices.Clone(whole)
		for many := range len(whole) + 1 {
			pieces := whole[:many]
			_, err := line.Unfold(pieces)
			_, again := line.Unfold(slices.Clip(slices.Clone(pieces)))
			if (err == nil) != unfolds(pieces) || plain.Told(err) != plain.Told(again) {
				t.Errorf("Unfold(%q): got %v, and of its copy %v", pieces, err, again)
			}
			if !slices.Equal(whole, before) || len(pieces) != many {
				t.Errorf("got %q, want the pieces as they were, %q", whole, before)
			}
		}
	}
}

// What comes out is the caller's: to write into it changes nothing that is answered later.
func TestPiecesAreFresh(t *testing.T) {
	for _, many := range []int{0, 1, 40, 41, 100, 500} {
		s := counted(many)
		first, second := line.Fold(s), line.Fold(s)
		want := slices.Clone(second)
		text, _ := line.Unfold(first)
		first = append(first, "more", "and more")
		clear(first)
		first = append(first[:1], "less")
		if third := line.Fold(s); len(first) != 2 || !slices.Equal(second, want) || !slices.Equal(third, want) {
			t.Errorf("got %q and %q, want %q", second, third, want)
		}
		if text != s {
			t.Errorf("got %q, want %q", text, s)
		}
	}
}

// Both ways at once: a text that is escaped and folded comes back, whatever a cut parts.
func TestEscapedAndFolded(t *testing.T) {
	for many := range 200 {
		s := strings.Repeat("\\;,\na ", 40)[many%6:][:many]
		text, err := line.Unfold(line.Fold(line.Escape(s)))
		if err != nil {
			t.Fatal(err)
		}
		wantPlain(t, text, s)
	}
}
