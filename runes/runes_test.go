package runes_test

import (
	"math"
	"strings"
	"testing"

	"harbinger/api"
	"harbinger/runes"
)

// last is the greatest number that is a rune's.
const last = 0x10ffff

// isRune tells by the document's words which numbers are runes.
func isRune(r rune) bool {
	return r >= 0 && r <= last && (r < 0xd800 || r > 0xdfff)
}

// written tells a rune's bytes, made by hand, to hold those of the package against.
func written(r rune) string {
	switch {
	case r < 0x80:
		return string([]byte{byte(r)})
	case r < 0x800:
		return string([]byte{byte(0xc0 | r>>6), byte(0x80 | r&63)})
	case r < 0x10000:
		return string([]byte{byte(0xe0 | r>>12), byte(0x80 | r>>6&63), byte(0x80 | r&63)})
	}
	return string([]byte{byte(0xf0 | r>>18), byte(0x80 | r>>12&63), byte(0x80 | r>>6&63), byte(0x80 | r&63)})
}

// strange hands out all texts of three pieces at most of those that go wrong most easily.
func strange(f func(s string)) {
	pieces := []string{"", "a", "\n", "\\", "u", "{", "}", "\x00", "\x7f", "\x80", "\xbf", "\xc0", "\xc1", "\xc2", "\xdf", "\xe0", "\xa0", "\x9f", "\xed", "\xef", "\xf0", "\x90", "\x8f", "\xf4", "\xf5", "\xff", "\u00e9", "\u20ac", "\ufffd", "\U0001f600", "\\n", "\\u{41}"}
	for _, a := range pieces {
		for _, b := range pieces {
			for _, c := range pieces {
				f(a + b + c)
			}
		}
	}
}

// P1.1
func TestDecode(t *testing.T) {
	for _, k := range []struct {
		s    string
		at   int
		r    rune
		size int
		ok   bool
	}{
		{"a\u00e9", 0, 'a', 1, true},
		{"a\u00e9", 1, 233, 2, true},
		{"a\u00e9", 2, 0, 1, false}, // within a rune's bytes
		{"\x00", 0, 0, 1, true},
		{"\x7f", 0, 0x7f, 1, true},
		{"\u0080", 0, 0x80, 2, true},
		{"\u07ff", 0, 0x7ff, 2, true},
		{"\u0800", 0, 0x800, 3, true},
		{"\ud7ff", 0, 0xd7ff, 3, true},
		{"\ue000", 0, 0xe000, 3, true},
		{"\ufffd", 0, 0xfffd, 3, true}, // a rune like any other
		{"\uffff", 0, 0xffff, 3, true},
		{"\U00010000", 0, 0x10000, 4, true},
		{"\U0010ffff", 0, last, 4, true},
		{"\xc0\x80", 0, 0, 1, false}, // not as few bytes as may be
		{"\xc1\xbf", 0, 0, 1, false},
		{"\xe0\x9f\xbf", 0, 0, 1, false},
		{"\xf0\x8f\xbf\xbf", 0, 0, 1, false},
		{"\xed\xa0\x80", 0, 0, 1, false}, // D800
		{"\xed\xbf\xbf", 0, 0, 1, false}, // DFFF
		{"\xf4\x90\x80\x80", 0, 0, 1, false},
		{"\xf5\x80\x80\x80", 0, 0, 1, false},
		{"\xff", 0, 0, 1, false},
		{"\x80", 0, 0, 1, false},
		{"\xc3", 0, 0, 1, false}, // cut off
		{"\xe2\x82", 0, 0, 1, false},
		{"\xf0\x9f\x98", 0, 0, 1, false},
		{"\xe2\x82a", 0, 0, 1, false},
		{"", 0, 0, 0, false},
		{"a", 1, 0, 0, false},
		{"a", 2, 0, 0, false},
		{"a", -1, 0, 0, false},
		{"a", math.MaxInt, 0, 0, false},
		{"a", math.MinInt, 0, 0, false},
	} {
		if r, size, ok := runes.Decode(k.s, k.at); r != k.r || size != k.size || ok != k.ok {
			t.Errorf("Decode(%q, %d): %d, %d, %t", k.s, k.at, r, size, ok)
		}
	}
}

// P1.1, P1.4
func TestRunesAreTheirBytes(t *testing.T) {
	for n := -2; n <= last+2; n++ {
		r := rune(n)
		s := runes.Encode(r)
		if !isRune(r) {
			if s != "" {
				t.Fatalf("Encode(%d): %q", r, s)
			}
			continue
		}
		if s != written(r) {
			t.Fatalf("Encode(%d): %q", r, s)
		}
		if b, size, ok := runes.Decode("x"+s+"\x80", 1); b != r || size != len(s) || !ok {
			t.Fatalf("Decode(Encode(%d)): %d, %d, %t", r, b, size, ok)
		}
		if _, size, ok := runes.Decode(s[:len(s)-1], 0); size != min(len(s)-1, 1) || ok {
			t.Fatalf("Decode(%d, cut off): %d, %t", r, size, ok)
		}
		if runes.Bad(s) != -1 {
			t.Fatalf("Bad(%q): %d", s, runes.Bad(s))
		}
	}
	for _, r := range []rune{0xd800, 0xdfff, last + 1, -1, math.MaxInt32, math.MinInt32} {
		if s := runes.Encode(r); s != "" {
			t.Errorf("Encode(%d): %q", r, s)
		}
	}
}

// P1.1
func TestBad(t *testing.T) {
	for _, k := range []struct {
		s  string
		at int
	}{
		{"", -1},
		{"abc", -1},
		{"a\u00e9\u20ac\U0001f600\n", -1},
		{"\ufffd", -1},
		{"\xff", 0},
		{"a\u00e9\xffb", 3},
		{"a\ufffd\xff", 4},
		{"\u20ac\xe2\x82", 3},
		{"ab\x80\xff", 2},
		{"\xed\xa0\x80", 0},
		{"\xc3\u00e9", 0},
	} {
		if at := runes.Bad(k.s); at != k.at {
			t.Errorf("Bad(%q): %d", k.s, at)
		}
	}
}

// P1.2
func TestPlace(t *testing.T) {
	s := "a\n\u00e9b"
	bad := "\xff\x80\u20ac\xe2\x82\n\xc3"
	for _, k := range []struct {
		s             string
		at            int
		to, line, col int
	}{
		{s, 0, 0, 1, 1},
		{s, 1, 1, 1, 2},
		{s, 2, 2, 2, 1},
		{s, 3, 3, 2, 2}, // within a rune: its byte ahead counts as one
		{s, 4, 4, 2, 2},
		{s, 5, 5, 2, 3},
		{s, 6, 5, 2, 3},
		{s, math.MaxInt, 5, 2, 3},
		{s, -1, 0, 1, 1},
		{s, math.MinInt, 0, 1, 1},
		{"", 0, 0, 1, 1},
		{"", 7, 0, 1, 1},
		{"\n", 1, 1, 2, 1},
		{"\n\n\n", 2, 2, 3, 1},
		{"\r\n\r\t", 4, 4, 2, 3}, // only a byte 10 ends a line
		{"\u2028\u0085", 5, 5, 1, 3},
		{"\U0001f600a", 3, 3, 1, 4},
		{"\U0001f600a", 4, 4, 1, 2},
		{bad, 2, 2, 1, 3},
		{bad, 3, 3, 1, 4},
		{bad, 4, 4, 1, 5},
		{bad, 5, 5, 1, 4},
		{bad, 7, 7, 1, 6},
		{bad, 8, 8, 2, 1},
		{bad, 9, 9, 2, 2},
	} {
		want := api.Pos{At: k.to, Line: k.line, Col: k.col}
		if p := runes.Place(k.s, k.at); p != want {
			t.Errorf("Place(%q, %d): %v", k.s, k.at, p)
		}
	}
}

// counted tells a place by the document's words: rune by rune of the whole text, and byte by byte where one is not all ahead.
func counted(s string, at int) api.Pos {
	p := api.Pos{At: at, Line: 1, Col: 1}
	for i := 0; i < at; {
		r, size, ok := runes.Decode(s, i)
		if !ok || i+size > at {
			size = 1
		}
		i += size
		p.Col++
		if ok && r == '\n' {
			p.Line, p.Col = p.Line+1, 1
		}
	}
	return p
}

// P1.2, P1.4
func TestPlacesNeverFall(t *testing.T) {
	strange(func(s string) {
		before := runes.Place(s, 0)
		for at := 0; at <= len(s); at++ {
			p := runes.Place(s, at)
			if p != counted(s, at) {
				t.Fatalf("Place(%q, %d): %v", s, at, p)
			}
			if _, _, begins := runes.Decode(s, at); !begins {
				continue
			}
			if p.Line < before.Line || p.Line == before.Line && p.Col < before.Col {
				t.Fatalf("Place(%q, %d): %v behind %v", s, at, p, before)
			}
			before = p
		}
	})
}

// P1.3
func TestEscape(t *testing.T) {
	for _, k := range []struct {
		s    string
		at   int
		r    rune
		size int
	}{
		{`\n`, 0, 10, 2},
		{`\r`, 0, 13, 2},
		{`\t`, 0, 9, 2},
		{`\\`, 0, '\\', 2},
		{`\'`, 0, '\'', 2},
		{`\]`, 0, ']', 2},
		{`\-`, 0, '-', 2},
		{`\[`, 0, '[', 2},
		{`a\nb`, 1, 10, 2},
		{`\\n`, 0, '\\', 2},
		{`\\n`, 1, 10, 2},
		{`\u{0}`, 0, 0, 5},
		{`\u{e9}`, 0, 233, 6},
		{`\u{E9}`, 0, 233, 6},
		{`\u{aBcD}x`, 0, 0xabcd, 8},
		{`\u{000041}`, 0, 'A', 10},
		{`\u{10ffff}`, 0, last, 10},
		{`\u{10FFFF}}`, 0, last, 10},
		{`\u{d7ff}`, 0, 0xd7ff, 8},
		{`\u{e000}`, 0, 0xe000, 8},
		{`--\u{41}`, 2, 'A', 6},
	} {
		if r, size, ok := runes.Escape(k.s, k.at); r != k.r || size != k.size || !ok {
			t.Errorf("Escape(%q, %d): %d, %d, %t", k.s, k.at, r, size, ok)
		}
	}
}

// P1.3
func TestNoEscape(t *testing.T) {
	for _, s := range []string{
		"", `\`, "n", "a\\n", `\x`, `\N`, `\0`, `\"`, `\u`, `\u41`, `\u{`, `\u{}`, `\u{4`, `\u{41`, `\u{g}`, `\u{4 1}`, `\u{ 41}`,
		`\u{+41}`, `\u{-1}`, `\u{4_1}`, `\u{0x41}`, `\u{0000041}`, `\u{0000000}`, `\u{1000000}`, `\u{110000}`, `\u{ffffff}`,
		`\u{d800}`, `\u{DFFF}`, `\U{41}`, `\u(41)`, `\u {41}`, "\\\n", "\\\xff", "\\\u00e9", "\\u{\u00e9}", "\\u{41\xff}",
	} {
		if r, size, ok := runes.Escape(s, 0); r != 0 || size != 0 || ok {
			t.Errorf("Escape(%q, 0): %d, %d, %t", s, r, size, ok)
		}
	}
	for _, at := range []int{-1, 2, 3, math.MaxInt, math.MinInt} {
		if r, size, ok := runes.Escape(`\n`, at); r != 0 || size != 0 || ok {
			t.Errorf("Escape(.., %d): %d, %d, %t", at, r, size, ok)
		}
	}
}

// P1.3
func TestText(t *testing.T) {
	for _, k := range []struct {
		r rune
		s string
	}{
		{10, `\n`}, {13, `\r`}, {9, `\t`}, {'\\', `\\`}, {'\'', `\'`}, {']', `\]`}, {'-', `\-`}, {'[', `\[`},
		{32, " "}, {126, "~"}, {'a', "a"}, {'n', "n"}, {'u', "u"}, {'{', "{"}, {'}', "}"}, {'"', `"`},
		{0, `\u{0}`}, {11, `\u{b}`}, {31, `\u{1f}`}, {127, `\u{7f}`}, {128, `\u{80}`}, {233, `\u{e9}`}, {0xabcd, `\u{abcd}`},
		{0xd7ff, `\u{d7ff}`}, {0xe000, `\u{e000}`}, {0xfffd, `\u{fffd}`}, {0x1f600, `\u{1f600}`}, {last, `\u{10ffff}`},
		{0xd800, ""}, {0xdfff, ""}, {last + 1, ""}, {-1, ""}, {math.MaxInt32, ""}, {math.MinInt32, ""},
	} {
		if s := runes.Text(k.r); s != k.s {
			t.Errorf("Text(%d): %q", k.r, s)
		}
	}
}

// P1.3, P1.4
func TestTextsAreTheirRunes(t *testing.T) {
	seen := map[string]rune{}
	for r := rune(0); r <= last; r++ {
		s := runes.Text(r)
		if !isRune(r) {
			if s != "" {
				t.Fatalf("Text(%d): %q", r, s)
			}
			continue
		}
		if other, twice := seen[s]; twice {
			t.Fatalf("Text(%d) and Text(%d): %q", r, other, s)
		}
		seen[s] = r
		if s == written(r) {
			if r < 32 || r > 126 || strings.ContainsRune(`\']-[`, r) {
				t.Fatalf("Text(%d): itself", r)
			}
			continue
		}
		if b, size, ok := runes.Escape(s+"}", 0); b != r || size != len(s) || !ok {
			t.Fatalf("Escape(Text(%d)): %d, %d, %t", r, b, size, ok)
		}
	}
}

// R1, R2, R5
func TestWhateverIsHandedIn(t *testing.T) {
	strange(func(s string) {
		for _, at := range []int{math.MinInt, -1, 0, 1, 2, 3, len(s) - 1, len(s), len(s) + 1, math.MaxInt} {
			within := at >= 0 && at < len(s)
			r, size, ok := runes.Decode(s, at)
			switch {
			case ok && (!within || !isRune(r) || s[at:at+size] != written(r)):
				t.Fatalf("Decode(%q, %d): %d, %d", s, at, r, size)
			case !ok && (r != 0 || within != (size == 1) || size > 1):
				t.Fatalf("Decode(%q, %d): %d, %d, false", s, at, r, size)
			}
			x, long, escapes := runes.Escape(s, at)
			switch {
			case escapes && (!within || !isRune(x) || at+long > len(s) || s[at] != '\\'):
				t.Fatalf("Escape(%q, %d): %d, %d", s, at, x, long)
			case !escapes && (x != 0 || long != 0):
				t.Fatalf("Escape(%q, %d): %d, %d, false", s, at, x, long)
			}
			if p := runes.Place(s, at); p != runes.Place(s, at) || p.At != min(max(at, 0), len(s)) {
				t.Fatalf("Place(%q, %d): %v", s, at, p)
			}
			r2, size2, ok2 := runes.Decode(s, at)
			x2, long2, escapes2 := runes.Escape(s, at)
			if r2 != r || size2 != size || ok2 != ok || x2 != x || long2 != long || escapes2 != escapes {
				t.Fatalf("%q, %d: not the same again", s, at)
			}
		}
	})
}
