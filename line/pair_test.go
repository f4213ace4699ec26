package line_test

import (
	"regexp"
	"strings"
	"testing"

	"chimework/api"
	"chimework/line"
	"chimework/plain"
)

// upTo so many letters of the alphabet, from its beginning on, again and again.
func upTo(many int) string {
	const letters = "ABCDEFGHIJKLMNOPQRSTUVWXYZ"
	return strings.Repeat(letters, many/len(letters)+1)[:many]
}

func wantPair(t *testing.T, s, key, value string) {
	t.Helper()
	if k, v, err := line.Pair(s); k != key || v != value || err != nil {
		t.Errorf("Pair(%q): got %q, %q, %v, want %q, %q", s, k, v, err, key, value)
	}
}

func wantNoPair(t *testing.T, s string) {
	t.Helper()
	if k, v, err := line.Pair(s); k != "" || v != "" || plain.Told(err) != api.ErrSyntax {
		t.Errorf("Pair(%q): got %q, %q, %v, want none, ErrSyntax", s, k, v, err)
	}
}

func TestPair(t *testing.T) {
	for _, row := range [][3]string{
		{"KEY:value", "KEY", "value"},
		{"NAME:meet", "NAME", "meet"},
		{"A:", "A", ""},
		{"Z:z", "Z", "z"},
		{"AZ:AZ", "AZ", "AZ"},
		{"KEY:", "KEY", ""},
		{"KEY::", "KEY", ":"},
		{"KEY:::", "KEY", "::"},
		{"KEY:a:b", "KEY", "a:b"},
		{"KEY:a:", "KEY", "a:"},
		{"KEY:A:B:C", "KEY", "A:B:C"},
		{"START:2026-11-17 09:30", "START", "2026-11-17 09:30"},
		{"KEY: value ", "KEY", " value "},
		{"KEY:\n", "KEY", "\n"},
		{`TEXT:a\;b\n`, "TEXT", `a\;b\n`},
		{"KEY:" + allBytes(), "KEY", allBytes()},
		{"ABCDEFGHIJKL:x", "ABCDEFGHIJKL", "x"},
		{"ABCDEFGHIJK:L:x", "ABCDEFGHIJK", "L:x"},
		{"ZZZZZZZZZZZZ:", "ZZZZZZZZZZZZ", ""},
		{"MNOPQRSTUVWX:YZ", "MNOPQRSTUVWX", "YZ"},
	} {
		wantPair(t, row[0], row[1], row[2])
	}
}

func TestNoPair(t *testing.T) {
	for _, s := range []string{
		"", "K", "KEY", "KEY value", "KEY;value", "ABCDEFGHIJKL", "KEY=value", "KEY\n", // no `:`
		":", "::", ":x", ":KEY:x", ":KEY", ": ", // nothing ahead of it
		"ABCDEFGHIJKLM:x", "ABCDEFGHIJKLM:", "ABCDEFGHIJKLMN:x", // too much
		"key:x", "Key:x", "kEY:x", "KEy:x", "a:", "z:", "KEY1:x", "1:x", "0KEY:x", "K9Y:x",
		" KEY:x", "KEY :x", "K Y:x", " :x", "KEY\n:x", "\nKEY:x", "[:x", "@:x", "K[Y:x", "KEY@:x", "[KEY:x", "@KEY:x", "KEY[:x", "K@Y:x",
		"KEY-A:x", "KEY_A:x", "KEY.A:x", "-:x", "Ä:x", "KEÝ:x", "Ａ:x", "KEY：x", "\x00:x", "KEY\x00:x", "\xc1:x",
		"key:KEY:x", "1:KEY:x", " :KEY:x", "KEY x:KEY:x",
	} {
		wantNoPair(t, s)
	}
}

func TestHowManyLetters(t *testing.T) {
	for many := range 60 {
		key := upTo(many)
		wantNoPair(t, key)
		for _, value := range []string{"", "x", ":", "A:B"} {
			if many >= 1 && many <= 12 {
				wantPair(t, key+":"+value, key, value)
			} else {
				wantNoPair(t, key+":"+value)
			}
		}
	}
	wantNoPair(t, upTo(1<<20)+":x")
	wantNoPair(t, upTo(1<<20))
	long := strings.Repeat("a:", 1<<20)
	if k, v, err := line.Pair("KEY:" + long); k != "KEY" || v != long || err != nil {
		t.Errorf("got %q, %d bytes, %v, want KEY, %d bytes", k, len(v), err, len(long))
	}
}

// Each byte, at each place of a key.
func TestEachByteOfAKey(t *testing.T) {
	for i := range 256 {
		for many := 1; many <= 12; many++ {
			for at := range many {
				key := []byte(upTo(many))
				key[at] = byte(i)
				s := string(key) + ":x"
				switch {
				case i >= 65 && i <= 90:
					wantPair(t, s, string(key), "x")
				case i == ':' && at > 0:
					wantPair(t, s, string(key[:at]), string(key[at+1:])+":x")
				default:
					wantNoPair(t, s)
				}
			}
		}
	}
}

// Each short text of the letters that matter, held against the library's way to tell such a form.
func TestEachShortPair(t *testing.T) {
	form := regexp.MustCompile(`(?s)^([A-Z]{1,12}):(.*)$`)
	eachText("AZa: 1[", 6, func(s string) {
		if parts := form.FindStringSubmatch(s); parts != nil {
			wantPair(t, s, parts[1], parts[2])
		} else {
			wantNoPair(t, s)
		}
	})
}

func TestErrorByNumber(t *testing.T) {
	_, notPlain := line.Plain(`\`)
	_, notFolded := line.Unfold(nil)
	_, _, noPair := line.Pair("")
	for _, err := range []error{notPlain, notFolded, noPair} {
		if int(plain.Told(err)) != 2 {
			t.Errorf("got %v, want the error 2", err)
		}
	}
}
