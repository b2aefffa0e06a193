package lexers_test

import (
	"math"
	"math/rand/v2"
	"reflect"
	"strings"
	"testing"
	"unicode/utf8"

	"harbinger/api"
	"harbinger/checks"
	"harbinger/lexers"
	. "harbinger/made"
	"harbinger/mins"
	"harbinger/nfas"
	"harbinger/subsets"
)

// A second reading of the chapter's words, size by size: each text that begins at a place is led through the table, or held against the rules, by itself.

const width = 9 // of the numbers whose ranges tables have

// begins tells which token of a text ends with the longest of those that begin at a place, and how many bytes that has.
func begins(s string, at int, ends func(text string) int) (kind, size int) {
	kind = -1
	for n := 1; at >= 0 && at+n <= len(s); n++ {
		if text := s[at : at+n]; utf8.ValidString(text) {
			if end := ends(text); end >= 0 {
				kind, size = end, n
			}
		}
	}
	return kind, size
}

// reread are the tokens of an input within the limits.
func reread(s string, drop []bool, ends func(text string) int) (l []api.Token, at int, e api.Errno) {
	for at < len(s) {
		kind, size := begins(s, at, ends)
		if kind < 0 {
			return nil, at, api.ErrLex
		}
		if !drop[kind] {
			l = append(l, api.Token{Kind: kind, Text: s[at : at+size], At: at})
		}
		at += size
	}
	return l, at, api.OK
}

// held holds what a lexer answers of an input against the second reading, at all places.
func held(t *testing.T, x *lexers.Lexer, s string, drop []bool, ends func(text string) int) api.Errno {
	t.Helper()
	for at := -1; at <= len(s)+1; at++ {
		kind, size := x.Longest(s, at)
		if wantKind, want := begins(s, at, ends); kind != wantKind || size != want {
			t.Fatalf("Longest(%q, %d): %d, %d, not %d, %d", s, at, kind, size, wantKind, want)
		}
	}
	l, at, e := x.Tokens(s)
	want, wantAt, wantE := reread(s, drop, ends)
	if e != wantE || at != wantAt || len(l) != len(want) || len(l) > 0 && !reflect.DeepEqual(l, want) {
		t.Fatalf("Tokens(%q): %s, not %s", s, text(l, at, e), text(want, wantAt, wantE))
	}
	return e
}

// dropping is whatever is dropped of so many tokens.
func dropping(r *rand.Rand, many int) []bool {
	drop := make([]bool, many)
	for i := range drop {
		drop[i] = r.IntN(3) == 0
	}
	return drop
}

// input is of few runes from a base on, with others between, and bytes that belong to none; as often it mostly goes where a table leads, again and again.
func input(r *rand.Rand, table subsets.Table, base rune) string {
	odd := []string{"\ufffd", "\xff", "\x80", "\xc3", "\xe2\x82", "\xed\xa0\x80", "\xf0\x9f\x98", "\xf4\x90\x80\x80", "\xc0\x80", "a", "\x00", "\U0010ffff"}
	var s strings.Builder
	state, led := 0, r.IntN(2) == 0
	for range r.IntN(12) {
		x := base + rune(r.IntN(width))
		if led {
			x, state = onward(r, table, state, x)
		}
		if r.IntN(20) == 0 {
			s.WriteString(odd[r.IntN(len(odd))])
		} else {
			s.WriteRune(x) // of what is no rune: 65533
		}
	}
	return s.String()
}

// onward is a rune that leads from a state to another one, and that, or from 0 on, where none does; the rune that is told, if none is found.
func onward(r *rand.Rand, table subsets.Table, state int, other rune) (rune, int) {
	for range 20 {
		if len(table.Ranges) == 0 {
			break
		}
		x := table.Ranges[r.IntN(len(table.Ranges))].Low
		if next := table.Step(state, x); next >= 0 {
			return x, next
		}
		state *= r.IntN(2)
	}
	return other, 0
}

// P11.1, P11.2, P11.3: whatever tables, in runes of one byte, of more, and at the ends of these.
func TestWhatever(t *testing.T) {
	r := rand.New(rand.NewPCG(11, 1))
	tokens, back, wrong, refused := 0, 0, 0, 0
	for i := range 30000 {
		base := []rune{0, 'a', 0x80 - 4, 0x800 - 4, 0xd800 - 4, 0xe000 - 4, 0xfffd - 4, 0x10000 - 4, 0x110000 - 4, math.MinInt32, -4, math.MaxInt32 - width + 1}[i%12]
		table, drop := Drawn(r.IntN, base, width), dropping(r, r.IntN(5))
		most := -1
		for _, end := range table.Ends {
			most = max(most, end)
		}
		x, e := lexers.New(table, drop)
		if most >= len(drop) {
			refused++
			if e != api.ErrArg || x != nil {
				t.Fatalf("New(%s, %v): error %d", Line(table), drop, e)
			}
			continue
		}
		if e != api.OK {
			t.Fatalf("New(%s, %v): error %d", Line(table), drop, e)
		}
		for range 5 {
			s := input(r, table, base)
			if held(t, x, s, drop, func(text string) int { return Done(table, text) }) != api.OK {
				wrong++
				continue
			}
			l, _, _ := x.Tokens(s)
			for _, k := range l {
				tokens++
				if stuck(table, s, k.At) > k.At+len(k.Text) {
					back++
				}
			}
		}
	}
	if tokens < 5000 || back < 500 || wrong < 10000 || refused < 5000 {
		t.Errorf("%d tokens, behind %d of which it went on in vain; %d inputs have none somewhere; of %d tables there is no lexer", tokens, back, wrong, refused)
	}
}

// P11.1: tables of which one number is another one: either they are still such as may be, or the error is told.
func TestWhateverWrong(t *testing.T) {
	r := rand.New(rand.NewPCG(11, 2))
	may, not := 0, 0
	for range 30000 {
		table := Drawn(r.IntN, 'a', width)
		Spoil(r.IntN, &table)
		x, e := lexers.New(table, kinds(5))
		want := subsets.May(table)
		for _, end := range table.Ends {
			want = want && end < 5
		}
		if want != (e == api.OK) || want != (x != nil) || !want && e != api.ErrArg {
			t.Fatalf("New(%v): error %d", table, e)
		}
		if want {
			may++
			held(t, x, input(r, table, 'a'), kinds(5), func(text string) int { return Done(table, text) })
		} else {
			not++
		}
	}
	if may < 5000 || not < 5000 {
		t.Errorf("of %d tables there is a lexer, of %d there is none", may, not)
	}
}

// ruled tells by the rules themselves the earliest token of which a text is one; -1: of none.
func ruled(g api.Grammar) func(text string) int {
	of := checks.Of(g, api.SToken, api.SSkip)
	return func(text string) int {
		for kind, at := range of {
			if Matches(g, g.Rules[at].Body, text) {
				return kind
			}
		}
		return -1
	}
}

// tabled are the table of a grammar's tokens, with which nothing is wrong, and the least one.
func tabled(t *testing.T, g api.Grammar) []subsets.Table {
	t.Helper()
	a, e := nfas.Build(g)
	table, f := subsets.Of(a)
	least, h := mins.Least(table)
	if e != api.OK || f != api.OK || h != api.OK {
		t.Fatal(g, e, f, h)
	}
	return []subsets.Table{table, least}
}

// P0.3, P11.2, P11.3: of whatever tokens a lexer answers just those that the rules tell, by their table and by the least one.
func TestRules(t *testing.T) {
	r := rand.New(rand.NewPCG(11, 3))
	short := Short(9)
	fine, wrong := 0, 0
	for range 5000 {
		g := Tokens(r.IntN)
		if !checks.Fine(g) {
			continue
		}
		var drop []bool
		for _, at := range checks.Of(g, api.SToken, api.SSkip) {
			drop = append(drop, g.Rules[at].Sort == api.SSkip)
		}
		for _, table := range tabled(t, g) {
			x := made(t, table, drop...)
			for range 15 {
				s := short[r.IntN(len(short))]
				if r.IntN(8) == 0 {
					at := r.IntN(len(s))
					s = s[:at] + []string{"c", "\xff"}[r.IntN(2)] + s[at:]
				}
				if held(t, x, s, drop, ruled(g)) == api.OK {
					fine++
				} else {
					wrong++
				}
			}
		}
	}
	if fine < 3000 || wrong < 3000 {
		t.Errorf("%d inputs are fine, %d are not", fine, wrong)
	}
}

// P11.4: tokens' texts, and those that were dropped, are the input, one behind the other.
func TestTextsAreTheInput(t *testing.T) {
	r := rand.New(rand.NewPCG(11, 4))
	found := 0
	for range 10000 {
		table, drop := Drawn(r.IntN, 'a', width), dropping(r, 3)
		x, all := made(t, table, drop...), made(t, table, kinds(3)...)
		s := input(r, table, 'a')
		l, _, e := x.Tokens(s)
		every, _, f := all.Tokens(s)
		if e != f {
			t.Fatalf("%s: Tokens(%q): error %d, %d where nothing is dropped", Line(table), s, e, f)
		}
		if e != api.OK {
			continue
		}
		at, left := 0, l
		for _, k := range every {
			if k.At != at || k.Text == "" || !strings.HasPrefix(s[at:], k.Text) {
				t.Fatalf("%s: Tokens(%q): %v at %d", Line(table), s, k, at)
			}
			at += len(k.Text)
			if !drop[k.Kind] {
				if len(left) == 0 || left[0] != k {
					t.Fatalf("%s: Tokens(%q): without %v", Line(table), s, k)
				}
				left = left[1:]
			}
		}
		if at != len(s) || len(left) > 0 {
			t.Fatalf("%s: Tokens(%q): %s", Line(table), s, text(l, at, e))
		}
		found += len(every)
	}
	if found < 2000 {
		t.Error(found, "tokens")
	}
}

// stuck tells how many bytes of an input are gone through from a place on, till no step leads on.
func stuck(table subsets.Table, s string, at int) int {
	state := 0
	for i := at; i < len(s); {
		r, size := utf8.DecodeRuneInString(s[i:])
		if r == utf8.RuneError && size == 1 {
			return i
		}
		if state = table.Step(state, r); state < 0 {
			return i
		}
		i += size
	}
	return len(s)
}

// P11.4: what stands ahead of a token, or behind one that could not go on, changes nothing of it.
func TestWhatStandsBehind(t *testing.T) {
	r := rand.New(rand.NewPCG(11, 5))
	found := 0
	for range 20000 {
		table := Drawn(r.IntN, 'a', width)
		x := made(t, table, kinds(3)...)
		s := input(r, table, 'a')
		for at := range s {
			kind, size := x.Longest(s, at)
			end := stuck(table, s, at)
			if end == len(s) || kind < 0 {
				continue
			}
			found++
			_, rest := utf8.DecodeRuneInString(s[end:]) // what could not be gone through
			for _, other := range []string{s[:end+rest] + input(r, table, 'a'), s[:end] + "\xff" + input(r, table, 'a'), s[:end], s[:end] + "~" + s} {
				for _, ahead := range []int{at, r.IntN(at + 1)} {
					other := strings.Repeat("b", ahead) + other[at:]
					if k, n := x.Longest(other, ahead); k != kind || n != size {
						t.Fatalf("%s: Longest(%q, %d): %d, %d, but of %q: %d, %d", Line(table), s, at, kind, size, other, k, n)
					}
				}
			}
		}
	}
	if found < 2000 {
		t.Error(found, "tokens")
	}
}
