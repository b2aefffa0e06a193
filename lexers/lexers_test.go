package lexers_test

import (
	"math"
	"reflect"
	"slices"
	"strconv"
	"strings"
	"testing"
	"unsafe"

	"harbinger/api"
	"harbinger/lexers"
	. "harbinger/made"
	"harbinger/mins"
	"harbinger/subsets"
)

// made is a lexer of a table of which there may be one.
func made(t *testing.T, table subsets.Table, drop ...bool) *lexers.Lexer {
	t.Helper()
	x, e := lexers.New(table, drop)
	if e != api.OK || x == nil {
		t.Fatalf("New(%.500s, %v): error %d", Line(table), drop, e)
	}
	return x
}

// kinds are so many, of which some are dropped.
func kinds(many int, dropped ...int) []bool {
	drop := make([]bool, many)
	for _, kind := range dropped {
		drop[kind] = true
	}
	return drop
}

// text tells what Tokens answers: of each token its Kind, its Text, and where it is; behind these the place, and the error, if there is one.
func text(l []api.Token, at int, e api.Errno) string {
	var parts []string
	for _, k := range l {
		parts = append(parts, strconv.Itoa(k.Kind)+strconv.Quote(k.Text)+strconv.Itoa(k.At))
	}
	parts = append(parts, strconv.Itoa(at))
	if e != api.OK {
		parts = append(parts, "error", strconv.Itoa(int(e)))
	}
	return strings.Join(parts, " ")
}

// told holds the tokens of an input against what is awaited; a long input is not told.
func told(t *testing.T, x *lexers.Lexer, s, want string) {
	t.Helper()
	if got := text(x.Tokens(s)); got != want {
		t.Errorf("Tokens(%.200q): %.500s, not %.500s", s, got, want)
	}
}

// refused holds that there is an error at a place, and nothing beside it.
func refused(t *testing.T, x *lexers.Lexer, s string, wantAt int, want api.Errno) {
	t.Helper()
	l, at, e := x.Tokens(s)
	if e != want || at != wantAt || len(l) != 0 {
		t.Errorf("Tokens(%.200q): error %d at %d, not %d at %d, with %d tokens", s, e, at, want, wantAt, len(l))
	}
}

// counted holds how many tokens there are, up to the end of an input.
func counted(t *testing.T, x *lexers.Lexer, s string, want int) {
	t.Helper()
	if l, at, e := x.Tokens(s); e != api.OK || at != len(s) || len(l) != want {
		t.Errorf("Tokens(%.200q): error %d at %d of %d, with %d tokens, not %d", s, e, at, len(s), len(l), want)
	}
}

// P11.3: the chapter's example.
func TestExample(t *testing.T) {
	table := Table("a: a>1; a>2 !0; a>1 !0")
	least, e := mins.Least(table)
	if e != api.OK {
		t.Fatal(e)
	}
	for _, table := range []subsets.Table{table, least} {
		x := made(t, table, false)
		l, at, e := x.Tokens("aaa")
		if want := []api.Token{{Kind: 0, Text: "aaa", At: 0}}; !reflect.DeepEqual(l, want) || at != 3 || e != api.OK {
			t.Error(l, at, e)
		}
		refused(t, x, "aab", 2, api.ErrLex)
		told(t, x, "", "0")
		if kind, size := x.Longest("aab", 0); kind != 0 || size != 2 {
			t.Error(kind, size)
		}
	}
}

// P11.1: of which tables, and with how much to drop, there may be a lexer.
func TestNew(t *testing.T) {
	for _, k := range []struct {
		table string
		drop  int // the fewest
	}{
		{":", 0},
		{"a: a>1;", 0}, // where nothing ends
		{": !0", 1},
		{"a: a>1; !0", 1},
		{"a: a>1 !3; !0", 4},
		{"a b: a>1 b>2; !0; !1", 2},
		{"a b: a>1 b>2; !1; !0", 2},
		{"a: a>1; !0; !63", 64}, // at a state to which nothing leads
		{"a: a>0 !2;!70", 71},   // no limit is told
	} {
		table := Table(k.table)
		for many := range k.drop + 3 {
			for _, drop := range [][]bool{kinds(many), slices.Repeat([]bool{true}, many)} {
				if x, e := lexers.New(table, drop); many < k.drop && (e != api.ErrArg || x != nil) || many >= k.drop && (e != api.OK || x == nil) {
					t.Errorf("New(%s, %d): error %d", k.table, many, e)
				}
			}
		}
		if x, e := lexers.New(table, nil); k.drop > 0 && (e != api.ErrArg || x != nil) || k.drop == 0 && (e != api.OK || x == nil) {
			t.Errorf("New(%s, nothing): error %d", k.table, e)
		}
	}
	for _, end := range []int{1, 256, 1 << 32, math.MaxInt} {
		if x, e := lexers.New(subsets.Table{Next: [][]int{nil}, Ends: []int{end}}, kinds(1)); e != api.ErrArg || x != nil {
			t.Errorf("New(.. %d): error %d", end, e)
		}
	}
	for i, table := range Wrong() {
		for _, drop := range [][]bool{nil, kinds(1), kinds(9)} {
			if x, e := lexers.New(table, drop); e != api.ErrArg || x != nil {
				t.Errorf("%d: New(%v): error %d", i, table, e)
			}
		}
	}
}

// P11.2: what begins at the places of inputs.
func TestLongest(t *testing.T) {
	for _, k := range []struct {
		tokens, s string
		at        int
		kind      int
		size      int
	}{
		{"A : 'a' ;", "a", 0, 0, 1},
		{"A : 'a' ;", "aa", 0, 0, 1},
		{"A : 'a' ;", "aa", 1, 0, 1},
		{"A : 'a' ;", "ba", 0, -1, 0},
		{"A : 'a' ;", "ba", 1, 0, 1},
		{"A : 'ab' ;", "a", 0, -1, 0}, // only a beginning
		{"A : 'ab' ;", "ab", 0, 0, 2},
		{"A : 'ab' ;", "aab", 0, -1, 0},
		{"A : 'ab' ;", "aab", 1, 0, 2},
		{"A : 'a'+ ;", "aaab", 0, 0, 3},
		{"A : 'a'+ ;", "aaab", 2, 0, 1},

		{"A : 'a' ;", "a", 1, -1, 0}, // places that are not in the input
		{"A : 'a' ;", "a", 2, -1, 0},
		{"A : 'a' ;", "a", -1, -1, 0},
		{"A : 'a' ;", "a", math.MinInt, -1, 0},
		{"A : 'a' ;", "a", math.MaxInt, -1, 0},
		{"A : 'a' ;", "", 0, -1, 0},
		{"", "a", 0, -1, 0}, // no tokens

		{"A : 'a' ; B : 'ab' ;", "ab", 0, 1, 2}, // the longest of several
		{"B : 'ab' ; A : 'a' ;", "ab", 0, 0, 2},
		{"A : 'a' ; B : 'ab' ;", "aab", 0, 0, 1},
		{"A : 'if' ; B : [a-z]+ ;", "if", 0, 0, 2}, // the earliest of these
		{"B : [a-z]+ ; A : 'if' ;", "if", 0, 0, 2},
		{"A : 'if' ; B : [a-z]+ ;", "iff", 0, 1, 3},
		{"A : 'if' ; B : [a-z]+ ;", "i", 0, 1, 1},
		{"A : 'if' ; B : [a-z]+ ;", "if if", 0, 0, 2},
		{"A : 'a' ; B : 'a'* 'b' ;", "aaaa", 0, 0, 1}, // further on nothing ends
		{"A : 'a' ; B : 'a'* 'b' ;", "aaac", 0, 0, 1},
		{"A : 'a' ; B : 'a'* 'b' ;", "aaab", 0, 1, 4},
		{"A : 'a' ; B : 'abc' ; C : 'abcde' ;", "abcd", 0, 1, 3},
		{"A : 'a' ; B : 'abc' ; C : 'abcde' ;", "abcde", 0, 2, 5},
		{"skip S : 'a' ; A : 'aa' ;", "aaa", 0, 1, 2}, // what is to be skipped is as any other

		{"A : 'é' ; B : . ;", "éa", 0, 0, 2}, // of several bytes
		{"A : 'é' ; B : . ;", "éa", 1, -1, 0},
		{"A : 'é' ; B : . ;", "éa", 2, 1, 1},
		{"A : 'é€' ;", "é€", 0, 0, 5},
		{"A : .+ ;", "aé€😀", 0, 0, 10},
		{"A : .+ ;", "aé€😀", 6, 0, 4},
		{"A : .+ ;", "aé€😀", 7, -1, 0},
		{"A : .+ ;", "a\x00b", 0, 0, 3},
		{"A : .+ ;", "\u007f\u0080\u07ff\u0800\ud7ff\ue000\uffff\U00010000\U0010ffff", 0, 0, 25},

		{"A : .+ ;", "\ufffd", 0, 0, 3}, // 65533 is a rune as any other
		{"A : .+ ;", "a\ufffdb", 0, 0, 5},
		{"A : [\\u{fffd}] ; B : . ;", "\ufffda", 0, 0, 3},
		{"A : [\\u{fffd}]+ ;", "\xff", 0, -1, 0}, // bytes that belong to none
		{"A : .+ ;", "\xff", 0, -1, 0},
		{"A : .+ ;", "ab\xffc", 0, 0, 2},
		{"A : .+ ;", "ab\xffc", 2, -1, 0},
		{"A : .+ ;", "ab\xffc", 3, 0, 1},
		{"A : .+ ;", "\ufffd\xff\ufffd", 0, 0, 3},
		{"A : .+ ;", "a\xc3", 0, 0, 1},
		{"A : .+ ;", "a\xe2\x82", 0, 0, 1},
		{"A : .+ ;", "a\xe2\x82b", 0, 0, 1},
		{"A : .+ ;", "a\xf0\x9f\x98", 0, 0, 1},
		{"A : .+ ;", "a\xc0\x80", 0, 0, 1},
		{"A : .+ ;", "a\xed\xa0\x80", 0, 0, 1},
		{"A : .+ ;", "a\xed\xbf\xbf", 0, 0, 1},
		{"A : .+ ;", "a\xf4\x90\x80\x80", 0, 0, 1},
		{"A : 'a' ; B : 'a' . 'b' ;", "a\xffb", 0, 0, 1},
		{"A : 'a' ; B : 'a' . 'b' ;", "a\ufffdb", 0, 1, 5},
	} {
		table := Lexed(k.tokens)
		for _, drop := range [][]bool{kinds(3), {true, true, true}} {
			if kind, size := made(t, table, drop...).Longest(k.s, k.at); kind != k.kind || size != k.size {
				t.Errorf("%s: Longest(%q, %d): %d, %d, not %d, %d", k.tokens, k.s, k.at, kind, size, k.kind, k.size)
			}
		}
	}
}

// P11.2: tables that no tokens have.
func TestLongestOfTables(t *testing.T) {
	for _, k := range []struct {
		table, s string
		kind     int
		size     int
	}{
		{": !0", "a", -1, 0}, // a text of no rune is none
		{"a: a>1 !0;", "a", -1, 0},
		{"a: a>1 !0;", "b", -1, 0},
		{"a: a>1 !0; a>0", "aa", 0, 2}, // back at the beginning
		{"a: a>1 !0; a>0", "aaa", 0, 2},
		{"a: a>0 !5", "aaa", 5, 3},
		{"a b: a>1 b>0; b>0 !4", "bbab", 4, 3},
		{"a: a>1 !5; a>0 !3", "aaa", 3, 3},
		{"a: a>1 !5; a>0 !3", "aa", 5, 2},
		{"c a,e b: a>1 b>2 c>3; !0; !1; !2", "e", 0, 1}, // columns in whatever order
		{"c a,e b: a>1 b>2 c>3; !0; !1; !2", "b", 1, 1},
		{"c a,e b: a>1 b>2 c>3; !0; !1; !2", "c", 2, 1},
		{"c a,e b: a>1 b>2 c>3; !0; !1; !2", "d", -1, 0},
		{"c a,e b: a>1 b>2 c>3; !0; !1; !2", "f", -1, 0},
		{"a-c d-f h-z: a-c>0 d-f>1 h-z>2;a-c>0 !0; h-z>2 !1", "cfg", 0, 2},
		{"a-c d-f h-z: a-c>0 d-f>1 h-z>2;a-c>0 !0; h-z>2 !1", "bhzg", 1, 3},
		{"0-1114111: 0-1114111>0 !0", "a\ufffd\U0010ffff\xff", 0, 8},
		{"55296-57343,65533: 65533>0 !0;", "\xed\xa0\x80", -1, 0},
	} {
		x := made(t, Table(k.table), kinds(6)...)
		if kind, size := x.Longest(k.s, 0); kind != k.kind || size != k.size {
			t.Errorf("%s: Longest(%q): %d, %d, not %d, %d", k.table, k.s, kind, size, k.kind, k.size)
		}
	}
}

// P11.2: all numbers that a rune's type has may be in ranges, but only runes are in inputs.
func TestNumbers(t *testing.T) {
	table := subsets.Table{
		Ranges: Set(math.MinInt32, -1, 0, 0, 0xd800, 0xdfff, 0xfffd, 0xfffd, 0x10ffff, 0x10ffff, 0x110000, math.MaxInt32).Set,
		Class:  []int{5, 4, 3, 2, 1, 0},
		Next:   [][]int{{6, 5, 4, 3, 2, 1}, nil, nil, nil, nil, nil, nil},
		Ends:   []int{-1, 0, 1, 2, 3, 4, 5},
	}
	for state := range table.Next[1:] {
		table.Next[1+state] = slices.Repeat([]int{-1}, 6)
	}
	x := made(t, table, kinds(6)...)
	for s, want := range map[string]int{"\x00": 1, "\ufffd": 3, "\U0010ffff": 4, "\x01": -1, "\ufffc": -1, "\U0010fffe": -1, "\xff": -1, "\xed\xa0\x80": -1, "\xf4\x90\x80\x80": -1, "\xf8\x88\x80\x80\x80": -1} {
		kind, size := x.Longest(s, 0)
		if kind != want || want >= 0 && size != len(s) || want < 0 && size != 0 {
			t.Errorf("Longest(%q): %d, %d", s, kind, size)
		}
	}
}

// P11.3: inputs as one writes them.
func TestTokens(t *testing.T) {
	const (
		words = "A : 'if' ; B : [a-z]+ ; skip S : [ \\n]+ ; N : [0-9]+ ('.' [0-9]+)? ; D : '..' ;"
		notes = "A : 'a' ; skip S : '/' '*' (~[*] | '*'+ ~[*\\u{2f}])* '*'+ '/' ; B : '/' ;"
	)
	for _, k := range []struct {
		tokens string
		drop   []bool
		s      string
		want   string
	}{
		{"A : 'a' ;", kinds(1), "", `0`},
		{"A : 'a' ;", kinds(1), "a", `0"a"0 1`},
		{"A : 'a' ;", kinds(1), "aaa", `0"a"0 0"a"1 0"a"2 3`},
		{"A : 'a' ;", kinds(1, 0), "aaa", `3`},
		{"A : 'a' ;", kinds(1), "aab", `2 error 9`},
		{"A : 'a' ;", kinds(1, 0), "aab", `2 error 9`},
		{"A : 'a' ;", kinds(1), "b", `0 error 9`},
		{"A : 'ab' ;", kinds(1), "aba", `2 error 9`}, // where it begins, not where it does not go on
		{"", nil, "", `0`},
		{"", nil, "a", `0 error 9`},

		{words, kinds(5, 2), "if x", `0"if"0 1"x"3 4`},
		{words, kinds(5), "if x", `0"if"0 2" "2 1"x"3 4`},
		{words, kinds(5, 1, 2), "if x if", `0"if"0 0"if"5 7`},
		{words, kinds(5, 0, 1, 2, 3, 4), "if x if", `7`},
		{words, kinds(5, 2), " iff\n\n if ", `1"iff"1 0"if"7 10`},
		{words, kinds(5, 2), "   ", `3`},
		{words, kinds(5, 2), "x1if2", `1"x"0 3"1"1 0"if"2 3"2"4 5`},
		{words, kinds(5, 2), "1.5..2", `3"1.5"0 4".."3 3"2"5 6`},
		{words, kinds(5, 2), "1..5", `3"1"0 4".."1 3"5"3 4`}, // gone on to the mark, and back
		{words, kinds(5, 2), "1.x", `1 error 9`},
		{words, kinds(5, 2), "1.2.3", `3 error 9`},
		{words, kinds(5, 2), "x  !", `3 error 9`},
		{words, kinds(5, 2), "if X", `3 error 9`},

		{notes, kinds(3, 1), "a/**/a", `0"a"0 0"a"5 6`},
		{notes, kinds(3, 1), "a/* a * **/a/a", `0"a"0 0"a"11 2"/"12 0"a"13 14`},
		{notes, kinds(3, 1), "a/* a", `2 error 9`}, // a comment that does not end is a mark, and then nothing

		{"A : 'é' ; B : . ;", kinds(2), "éa€é", `0"é"0 1"a"2 1"€"3 0"é"6 8`}, // places are bytes
		{"A : 'é' ; B : . ;", kinds(2, 1), "éa€é", `0"é"0 0"é"6 8`},
		{"A : . ;", kinds(1), "a\xffb", `1 error 9`},
		{"A : . ;", kinds(1), "\ufffd\xff", `3 error 9`},
		{"A : .+ ;", kinds(1), "ab\xff", `2 error 9`},
		{"A : .+ ;", kinds(1, 0), "ab\xff", `2 error 9`},
		{"A : . ;", kinds(1), "é\xc3", `2 error 9`},
		{"A : . ;", kinds(1), "\xa9", `0 error 9`},
		{"A : .+ ;", kinds(1), "a\ufffd\x00", `0"a�\x00"0 5`},

		{"A : 'a' ; B : 'a'* 'b' ;", kinds(2), "aaaa", `0"a"0 0"a"1 0"a"2 0"a"3 4`},
		{"A : 'a' ; B : 'a'* 'b' ;", kinds(2), "aaabaa", `1"aaab"0 0"a"4 0"a"5 6`},
		{"A : 'a' ; skip S : 'ab' ;", kinds(2, 1), "abaab", `0"a"2 5`},
		{"skip S : 'a' | ' ' ; A : 'a' ; B : 'aa' ;", kinds(3, 0), "a aaa", `2"aa"2 5`},
	} {
		table := Lexed(k.tokens)
		least, e := mins.Least(table)
		if e != api.OK {
			t.Fatal(e)
		}
		told(t, made(t, table, k.drop...), k.s, k.want)
		told(t, made(t, least, append(slices.Clone(k.drop), true)...), k.s, k.want)
	}
}

// P11.3: as many bytes as may be, and one more.
func TestManyBytes(t *testing.T) {
	x := made(t, Lexed("A : 'a'+ ; B : 'b' ; skip S : ' ' ; E : 'é'+ ;"), kinds(4, 2)...)
	for _, s := range []string{"a", " ", "é"} {
		full := strings.Repeat(s, api.MaxInput/len(s))
		if want := len(full); want != api.MaxInput {
			t.Fatal(want)
		}
		tokens := 1
		if s == " " {
			tokens = 0
		}
		counted(t, x, full, tokens)
		counted(t, x, full[len(s):], tokens)
		for _, more := range []string{"a", "b", " ", "!", "\xff", full} {
			refused(t, x, full+more, 0, api.ErrLimit)
			refused(t, x, more+full, 0, api.ErrLimit)
		}
		refused(t, x, full[len(s):]+strings.Repeat("!", len(s)), api.MaxInput-len(s), api.ErrLex)
	}
	refused(t, x, strings.Repeat("é", api.MaxInput/2+1), 0, api.ErrLimit) // bytes, not runes
	refused(t, x, strings.Repeat("b", api.MaxInput+1), 0, api.ErrLimit)   // though there would be too many tokens ahead
	if kind, size := x.Longest(strings.Repeat("a", 3*api.MaxInput), 5); kind != 0 || size != 3*api.MaxInput-5 {
		t.Errorf("Longest of more bytes: %d, %d", kind, size) // which tells no limit
	}
}

// P11.3: as many tokens as may be, and one more; those that are dropped do not count.
func TestManyTokens(t *testing.T) {
	const all = api.MaxTokens
	x := made(t, Lexed("A : 'a' ; skip S : ' '+ ; B : 'ab' ;"), kinds(3, 1)...)
	as := strings.Repeat("a", all)
	counted(t, x, as, all)
	counted(t, x, as+" ", all)
	counted(t, x, as+strings.Repeat(" ", all), all)
	counted(t, x, strings.Repeat(" a", all)+"  ", all)
	counted(t, x, as+"b", all)
	l, _, _ := x.Tokens(strings.Repeat("a ", all))
	if len(l) != all || l[all-1] != (api.Token{Kind: 0, Text: "a", At: 2*all - 2}) {
		t.Errorf("%d tokens", len(l))
	}
	refused(t, x, as+"a", all, api.ErrLimit)
	refused(t, x, as+"ab", all, api.ErrLimit)
	refused(t, x, as+"   ab", all+3, api.ErrLimit) // at its place
	refused(t, x, as+" a!", all+1, api.ErrLimit)   // ahead of what is wrong behind it
	refused(t, x, as+"!", all, api.ErrLex)
	refused(t, x, as+" !a", all+1, api.ErrLex)
	refused(t, x, "!"+as+"a", 0, api.ErrLex)
	refused(t, x, strings.Repeat("a", 2*all), all, api.ErrLimit)
	refused(t, x, strings.Repeat("a ", all)+"a", 2*all, api.ErrLimit)
	counted(t, made(t, Lexed("A : 'a' ;"), true), strings.Repeat("a", api.MaxInput), 0)
}

// P11.2, P11.3: a table of many states, and one of many ranges.
func TestManyStatesAndRanges(t *testing.T) {
	half := strings.Repeat("ab", 1000)
	x := made(t, Lexed("A : '"+half+"' ; B : 'ab' ;"), kinds(2, 1)...)
	told(t, x, half+"ab", `0"`+half+`"0 2002`)
	counted(t, x, half+half, 2)
	counted(t, x, half[2:], 0) // one pair is missing: pair by pair
	refused(t, x, half[1:], 0, api.ErrLex)
	refused(t, x, half+half[:1], len(half), api.ErrLex)

	table := subsets.Table{Next: [][]int{nil, nil, nil}, Ends: []int{-1, 0, 1}}
	const many = 30000
	for i := range many {
		r := rune('a' + 2*i)
		table.Ranges, table.Class = append(table.Ranges, api.Range{Low: r, High: r}), append(table.Class, many-1-i)
		table.Next[0] = append(table.Next[0], 1+i%2)
		table.Next[1], table.Next[2] = append(table.Next[1], -1), append(table.Next[2], -1)
	}
	x = made(t, table, false, false)
	for i := range many {
		r := rune('a' + 2*i)
		want := 1 - i%2 // by the last column first
		if r >= 0xd800 && r <= 0xdfff {
			continue
		}
		if kind, size := x.Longest(string(r)+"a", 0); kind != want || size != len(string(r)) {
			t.Fatalf("%d: %d, %d", r, kind, size)
		}
		if kind, size := x.Longest(string(r+1), 0); kind != -1 || size != 0 {
			t.Fatalf("%d: %d, %d", r+1, kind, size)
		}
	}
}

// R3: of a lexer that is not there, or that New did not make, nothing begins anywhere, and ErrNil is told ahead of a limit (R2).
func TestNoLexer(t *testing.T) {
	for _, x := range []*lexers.Lexer{nil, {}, new(lexers.Lexer)} {
		for _, s := range []string{"", "a", "\xff", strings.Repeat("a", api.MaxInput+1)} {
			refused(t, x, s, 0, api.ErrNil)
			for _, at := range []int{-1, 0, 1, len(s), math.MinInt, math.MaxInt} {
				if kind, size := x.Longest(s, at); kind != -1 || size != 0 {
					t.Errorf("Longest(%.20q, %d): %d, %d", s, at, kind, size)
				}
			}
		}
	}
	told(t, made(t, Table(":")), "", "0") // there, though nothing is in it
	told(t, made(t, Table(":")), "a", "0 error 9")
}

// R1: nothing that is handed in is changed, or kept: neither the table, nor what is dropped, nor the input.
func TestNothingKept(t *testing.T) {
	const source, s = "A : 'if' ; B : [a-z]+ ; skip S : ' '+ ; N : [0-9é]+ ;", "if x  é1 iff 12"
	const want = `0"if"0 1"x"3 3"é1"6 1"iff"10 3"12"14 16`
	table, drop := Lexed(source), kinds(4, 2)
	was, dropWas := Copied(table), slices.Clone(drop)
	x := made(t, table, drop...)
	input := []byte(s)
	l, at, e := x.Tokens(unsafe.String(&input[0], len(input)))
	if !reflect.DeepEqual(table, was) || !slices.Equal(drop, dropWas) || string(input) != s {
		t.Error("what was handed in is another one")
	}
	clear(input)
	if got := text(l, at, e); got != want {
		t.Errorf("%s, not %s: the input is kept", got, want)
	}
	for i := range drop {
		drop[i] = !drop[i]
	}
	clear(table.Ranges)
	for _, l := range append([][]int{table.Class, table.Ends}, table.Next...) {
		clear(l)
	}
	clear(table.Next)
	told(t, x, s, want)
	if kind, size := x.Longest("iff", 0); kind != 1 || size != 3 {
		t.Error("the table is kept:", kind, size)
	}
}

// R4: lists have no room behind, and texts have memory of their own.
func TestApart(t *testing.T) {
	x := made(t, Lexed("A : 'a'+ ; B : 'b' ; skip S : ' ' ;"), kinds(3, 2)...)
	for _, s := range []string{"", "a", "aa b a b", "b a aaa  bbb", " ", strings.Repeat("b", 100), strings.Repeat("a b ", 33)} {
		l, _, e := x.Tokens(s)
		if e != api.OK || cap(l) != len(l) {
			t.Errorf("%q: error %d, %d tokens, room for %d", s, e, len(l), cap(l))
		}
		texts := map[*byte]bool{}
		for _, k := range l {
			at := unsafe.StringData(k.Text)
			if texts[at] || at == unsafe.StringData(s[k.At:]) {
				t.Errorf("%q: %v has the memory of another text", s, k)
			}
			texts[at] = true
		}
		want := text(l, len(s), e)
		clear(l)
		told(t, x, s, want) // whatever became of an answer
	}
}

// R5: what was asked ahead, of this lexer or another one, changes no answer.
func TestAgain(t *testing.T) {
	table, other := Lexed("A : 'a' ; B : 'a'* 'b' ; skip S : ' ' ;"), Lexed("A : [ab ]+ ;")
	x, y := made(t, table, kinds(3, 2)...), made(t, other, false)
	inputs := []string{"aaab a", "aaaa", "", "ab!", strings.Repeat("ab", api.MaxTokens+1), "!", strings.Repeat("a", api.MaxInput+1), " aab  b"}
	var first []string
	for _, s := range inputs {
		first = append(first, text(x.Tokens(s)))
	}
	for range 3 {
		for i := range inputs {
			j := len(inputs) - 1 - i
			told(t, x, inputs[j], first[j])
			y.Tokens(inputs[i])
			x.Longest(inputs[i], i)
			told(t, made(t, table, kinds(3, 2)...), inputs[i], first[i])
		}
	}
	z := *x
	told(t, &z, inputs[0], first[0]) // one that was copied is as it
}
