package line_test

import (
	"math/rand/v2"
	"strings"
	"testing"

	"chimework/api"
	"chimework/line"
	"chimework/plain"
)

// allBytes, in their order.
func allBytes() string {
	var list []byte
	for b := range 256 {
		list = append(list, byte(b))
	}
	return string(list)
}

// escaped says L1's Escape by the library.
func escaped(s string) string {
	return strings.NewReplacer(`\`, `\\`, `;`, `\;`, `,`, `\,`, "\n", `\n`).Replace(s)
}

// eachText of so many of the letters at most goes by, the empty one first.
func eachText(letters string, most int, tell func(string)) {
	texts := []string{""}
	for range most + 1 {
		var next []string
		for _, s := range texts {
			tell(s)
			for i := range len(letters) {
				next = append(next, s+letters[i:i+1])
			}
		}
		texts = next
	}
}

func wantPlain(t *testing.T, s, want string) {
	t.Helper()
	if got, err := line.Plain(s); got != want || err != nil {
		t.Errorf("Plain(%q): got %q, %v, want %q", s, got, err, want)
	}
}

// wantEscaped asks for both ways.
func wantEscaped(t *testing.T, s, want string) {
	t.Helper()
	if got := line.Escape(s); got != want {
		t.Errorf("Escape(%q): got %q, want %q", s, got, want)
	}
	wantPlain(t, want, s)
}

func wantNotPlain(t *testing.T, s string) {
	t.Helper()
	if got, err := line.Plain(s); got != "" || plain.Told(err) != api.ErrSyntax {
		t.Errorf("Plain(%q): got %q, %v, want none, ErrSyntax", s, got, err)
	}
}

func TestEscapeAndPlain(t *testing.T) {
	for _, row := range [][2]string{
		{"", ""},
		{"a", "a"},
		{"n", "n"},
		{" ", " "},
		{"the whole: \"text\" / as 'it' is", "the whole: \"text\" / as 'it' is"},
		{`\`, `\\`},
		{`;`, `\;`},
		{`,`, `\,`},
		{"\n", `\n`},
		{`\n`, `\\n`},
		{"\\\n", `\\\n`},
		{`\\n`, `\\\\n`},
		{`\;`, `\\\;`},
		{`\,`, `\\\,`},
		{`\\`, `\\\\`},
		{`\\\`, `\\\\\\`},
		{`;;`, `\;\;`},
		{`,,`, `\,\,`},
		{"\n\n", `\n\n`},
		{"\\;,\n", `\\\;\,\n`},
		{"\n,;\\", `\n\,\;\\`},
		{"a;b,c", `a\;b\,c`},
		{"a\\b\nc", `a\\b\nc`},
		{";begins", `\;begins`},
		{"ends,", `ends\,`},
		{"ends\\", `ends\\`},
		{"\nbegins and ends\n", `\nbegins and ends\n`},
		{"n;n\nn", `n\;n\nn`},
		{"a\r\nb", "a\r\\nb"},
		{"\x00;\x00", "\x00\\;\x00"},
		{"grün; \xff,\xc3", "grün\\; \xff\\,\xc3"},
		{"：；，＼", "：；，＼"},
	} {
		wantEscaped(t, row[0], row[1])
	}
}

// Each byte alone, behind itself, and between others.
func TestEachByteEscaped(t *testing.T) {
	special := map[byte]string{'\\': `\\`, ';': `\;`, ',': `\,`, 10: `\n`}
	whole := ""
	for i := range 256 {
		b := string([]byte{byte(i)})
		want, ok := special[byte(i)]
		if !ok {
			want = b
		}
		wantEscaped(t, b, want)
		wantEscaped(t, b+b, want+want)
		wantEscaped(t, "x"+b+"y", "x"+want+"y")
		wantEscaped(t, `\`+b+"\n", `\\`+want+`\n`)
		whole += want
	}
	wantEscaped(t, allBytes(), whole)
	if len(whole) != 260 {
		t.Errorf("got %d bytes, want 260", len(whole))
	}
}

// A mark ahead of each byte: four of them may stand there.
func TestMarkAheadOfEachByte(t *testing.T) {
	meant := map[byte]string{'\\': `\`, ';': `;`, ',': `,`, 'n': "\n"}
	for i := range 256 {
		s := string([]byte{'\\', byte(i)})
		want, ok := meant[byte(i)]
		for _, ends := range [][2]string{{"", ""}, {"x", ""}, {"", "y"}, {"x", "y"}} {
			if ok {
				wantPlain(t, ends[0]+s+ends[1], ends[0]+want+ends[1])
			} else {
				wantNotPlain(t, ends[0]+s+ends[1])
			}
		}
	}
}

func TestTextsThatAreNotEscaped(t *testing.T) {
	for _, s := range []string{
		`\`, `a\`, `\\\`, `\;\`, `\n\`, `\\\\\`, // ended by a mark alone
		`\N`, `\ `, `\a`, `\0`, `\:`, `\r`, `\t`, `\"`, "\\\n", "\\\r", "\\\x00", "\\\xff", `\\\N`, `a\Nb`, `\n\N`, `\ n`,
		`;`, `,`, "\n", `a;`, `;a`, `a,`, `,a`, "a\n", "\na", `a;b`, `a,b`, "a\nb",
		`\;;`, `;\;`, `\,,`, `,\,`, `\n` + "\n", "\n" + `\n`, `\\;`, `\\,`, "\\\\\n", `\n;`, `\;,`,
		`\\\;;`, `fine\; and fine\, but;`, "\r\n",
	} {
		wantNotPlain(t, s)
	}
}

// What is wrong is wrong wherever it stands, and nothing of what is read ahead of it is told.
func TestWrongWhereverItStands(t *testing.T) {
	const fine = `a\\b\;c\,d\ne`
	for _, wrong := range []string{`\x`, `\N`, `\ `, ";", ",", "\n"} {
		wantNotPlain(t, wrong+fine)
		wantNotPlain(t, fine+wrong)
		wantNotPlain(t, fine+wrong+fine)
		wantNotPlain(t, strings.Repeat(fine, 1000)+wrong)
	}
	wantNotPlain(t, fine+`\`)
	wantNotPlain(t, strings.Repeat(fine, 1000)+`\`)
}

// Whatever Plain reads is what Escape writes, and Plain reads whatever Escape writes: each short text of the letters that matter.
func TestEachShortText(t *testing.T) {
	const most = 6
	meant := map[string]string{}
	eachText("\\;,\nnN ", most, func(s string) {
		written := escaped(s)
		if other, ok := meant[written]; ok {
			t.Fatalf("%q and %q would be the same", s, other)
		}
		meant[written] = s
		if got := line.Escape(s); got != written {
			t.Fatalf("Escape(%q): got %q, want %q", s, got, written)
		}
	})
	read := 0
	eachText("\\;,\nnN ", most, func(s string) {
		// A text is written in no fewer bytes than it has, so it was among those above if there is one.
		want, ok := meant[s]
		if !ok {
			wantNotPlain(t, s)
			return
		}
		wantPlain(t, s, want)
		read++
	})
	// Those of one length are 3 times those that are by one byte shorter, and 4 times those by two: 3 bytes stand alone here, 4 are marked.
	if want := 1 + 3 + 13 + 51 + 205 + 819 + 3277; read != want {
		t.Errorf("got %d texts that are read, want %d", read, want)
	}
}

func TestDrawnTexts(t *testing.T) {
	random := rand.New(rand.NewPCG(11, 1))
	letters := "\\\\;,\n\nnNab \r\x00\xff"
	for range 20000 {
		s := make([]byte, random.IntN(30))
		for i := range s {
			s[i] = letters[random.IntN(len(letters))]
			if random.IntN(4) == 0 {
				s[i] = byte(random.IntN(256))
			}
		}
		wantEscaped(t, string(s), escaped(string(s)))
		if got, err := line.Plain(string(s)); err == nil {
			wantEscaped(t, got, string(s))
		} else if got != "" || plain.Told(err) != api.ErrSyntax {
			t.Fatalf("Plain(%q): got %q, %v, want none, ErrSyntax", s, got, err)
		}
	}
}

func TestLongTextsEscaped(t *testing.T) {
	const many = 1 << 20
	for _, row := range [][2]string{{`\`, `\\`}, {";", `\;`}, {",", `\,`}, {"\n", `\n`}, {"a", "a"}, {"\xff", "\xff"}} {
		s, want := strings.Repeat(row[0], many), strings.Repeat(row[1], many)
		if line.Escape(s) != want {
			t.Errorf("Escape of %d times %q is not %d times %q", many, row[0], many, row[1])
		}
		if got, err := line.Plain(want); got != s || err != nil {
			t.Errorf("Plain of %d times %q is not %d times %q: %v", many, row[1], many, row[0], err)
		}
		wantNotPlain(t, want+`\`)
	}
	// An odd number of marks leaves one alone, however many they are.
	for many := range 200 {
		if s := strings.Repeat(`\`, many); many%2 == 0 {
			wantPlain(t, s, s[:many/2])
		} else {
			wantNotPlain(t, s)
		}
	}
}
