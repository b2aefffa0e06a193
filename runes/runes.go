// Package runes is layer 1: texts as runes, their places, and their escapes. See doc/01-runes.md.
package runes

import (
	"strconv"
	"strings"
	"unicode/utf8"

	"harbinger/api"
)

// An escape is a backslash and one of signs, for the rune at the same place in meant; or a number between head and tail.
const (
	signs  = `nrt\']-[`
	meant  = "\n\r\t" + `\']-[`
	head   = `\u{`
	tail   = "}"
	digits = 6 // of a number, at most
)

// Decode: the rune at a place. (P1.1)
func Decode(s string, at int) (r rune, size int, ok bool) {
	if at < 0 || at >= len(s) {
		return 0, 0, false
	}
	r, size = utf8.DecodeRuneInString(s[at:])
	if r == utf8.RuneError && size == 1 { // that rune itself, written out, has three bytes
		return 0, 1, false
	}
	return r, size, true
}

// Encode: a rune's bytes. (P1.1)
func Encode(r rune) string {
	if !utf8.ValidRune(r) {
		return ""
	}
	return string(r)
}

// Bad: the first place where no rune begins. (P1.1)
func Bad(s string) int {
	for at := 0; at < len(s); {
		_, size, ok := Decode(s, at)
		if !ok {
			return at
		}
		at += size
	}
	return -1
}

// Place behind so many bytes. (P1.2)
func Place(s string, at int) api.Pos {
	at = min(max(at, 0), len(s))
	p := api.Pos{At: at, Line: 1, Col: 1}
	for _, r := range s[:at] { // each byte of what is no rune, or is cut off, comes by itself
		if r == '\n' {
			p.Line++
			p.Col = 1
		} else {
			p.Col++
		}
	}
	return p
}

// Escape at a place. (P1.3)
func Escape(s string, at int) (r rune, size int, ok bool) {
	if at < 0 || at >= len(s) {
		return 0, 0, false
	}
	s = s[at:]
	if strings.HasPrefix(s, head) {
		return numbered(s)
	}
	if len(s) < 2 || s[0] != '\\' {
		return 0, 0, false
	}
	i := strings.IndexByte(signs, s[1])
	if i < 0 {
		return 0, 0, false
	}
	return rune(meant[i]), 2, true
}

// numbered reads the escape by number with which s begins; s has its head.
func numbered(s string) (r rune, size int, ok bool) {
	s = s[len(head):]
	// No tail further off can end it, so a long text is not searched for one.
	number, _, ended := strings.Cut(s[:min(len(s), digits+len(tail))], tail)
	n, err := strconv.ParseUint(number, 16, 32)
	if !ended || err != nil || !utf8.ValidRune(rune(n)) {
		return 0, 0, false
	}
	return rune(n), len(head) + len(number) + len(tail), true
}

// Text of a rune. (P1.3)
func Text(r rune) string {
	if !utf8.ValidRune(r) {
		return ""
	}
	if i := strings.IndexRune(meant, r); i >= 0 {
		return `\` + signs[i:i+1]
	}
	if r >= ' ' && r <= '~' {
		return string(r)
	}
	return head + strconv.FormatInt(int64(r), 16) + tail
}
