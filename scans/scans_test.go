package scans_test

import (
	"reflect"
	"regexp"
	"slices"
	"strconv"
	"strings"
	"testing"
	"unsafe"

	"harbinger/api"
	"harbinger/runes"
	"harbinger/scans"
)

// sample has words of each kind, and gaps of each kind, in several lines.
const sample = "grammar G; // a comment\noptions { bound = 2 ; states=256; }\r\n" +
	"a\t: (B | 'x''y')=> B* c? /* one ** / // \u00e9 ' [ */ ;\n" +
	"fragment B_1z : ~[a-z\\u{e9}-\\u{10ffff}\\]\\[\\-'] 'a'..'\\n' . + | '\u20ac\\'\\\\\t\"' ;/**/skip W: [ \\t\\r\\n]+;"

func pos(at, line, col int) api.Pos {
	return api.Pos{At: at, Line: line, Col: col}
}

func word(k scans.Kind, text string, at api.Pos, set ...api.Range) scans.Word {
	return scans.Word{Kind: k, Text: text, Set: set, At: at}
}

func span(low, high rune) api.Range {
	return api.Range{Low: low, High: high}
}

// same holds words against each other; no ranges are as many as none.
func same(a, b []scans.Word) bool {
	return slices.EqualFunc(a, b, func(x, y scans.Word) bool {
		return x.Kind == y.Kind && x.Text == y.Text && x.At == y.At && slices.Equal(x.Set, y.Set)
	})
}

// bare takes words' places away, to hold words against those of another text.
func bare(l []scans.Word) []scans.Word {
	l = slices.Clone(l)
	for i := range l {
		l[i].At = api.Pos{}
	}
	return l
}

// scanned tells the words of a text in which there is no fault.
func scanned(t *testing.T, s string) []scans.Word {
	t.Helper()
	words, fault := scans.Scan(s)
	if fault != (scans.Fault{}) {
		t.Fatalf("Scan(%.200q): fault %v", s, fault)
	}
	return words
}

// faulty looks whether a text has just that fault, and no words with it.
func faulty(t *testing.T, s string, e api.Errno, at api.Pos) {
	t.Helper()
	words, fault := scans.Scan(s)
	if fault != (scans.Fault{E: e, At: at}) || len(words) != 0 {
		t.Errorf("Scan(%.200q): fault %v, %d words; want %d at %v", s, fault, len(words), e, at)
	}
}

// P2.1
func TestKinds(t *testing.T) {
	for i, k := range []int{int(scans.WdName), int(scans.WdNum), int(scans.WdText), int(scans.WdSet), int(scans.WdMark)} {
		if i != k {
			t.Error("kind", i, "is", k)
		}
	}
}

// P2.1: names, numbers, marks.
func TestWords(t *testing.T) {
	for _, k := range []struct {
		s    string
		want []scans.Word
	}{
		{"", nil},
		{" \t\r\n", nil},
		{"a", []scans.Word{word(scans.WdName, "a", pos(0, 1, 1))}},
		{"azAZ09_", []scans.Word{word(scans.WdName, "azAZ09_", pos(0, 1, 1))}},
		{"A__", []scans.Word{word(scans.WdName, "A__", pos(0, 1, 1))}},
		{"Z z", []scans.Word{word(scans.WdName, "Z", pos(0, 1, 1)), word(scans.WdName, "z", pos(2, 1, 3))}},
		{"grammar skip", []scans.Word{word(scans.WdName, "grammar", pos(0, 1, 1)), word(scans.WdName, "skip", pos(8, 1, 9))}},
		{"0", []scans.Word{word(scans.WdNum, "0", pos(0, 1, 1))}},
		{"007", []scans.Word{word(scans.WdNum, "007", pos(0, 1, 1))}},
		{"123456789", []scans.Word{word(scans.WdNum, "123456789", pos(0, 1, 1))}},
		{"12a3", []scans.Word{word(scans.WdNum, "12", pos(0, 1, 1)), word(scans.WdName, "a3", pos(2, 1, 3))}},
		{"a:'b';", []scans.Word{
			word(scans.WdName, "a", pos(0, 1, 1)), word(scans.WdMark, ":", pos(1, 1, 2)),
			word(scans.WdText, "b", pos(2, 1, 3)), word(scans.WdMark, ";", pos(5, 1, 6)),
		}},
		{"=>", []scans.Word{word(scans.WdMark, "=>", pos(0, 1, 1))}},
		{"==>", []scans.Word{word(scans.WdMark, "=", pos(0, 1, 1)), word(scans.WdMark, "=>", pos(1, 1, 2))}},
		{"...", []scans.Word{word(scans.WdMark, "..", pos(0, 1, 1)), word(scans.WdMark, ".", pos(2, 1, 3))}},
		{"....", []scans.Word{word(scans.WdMark, "..", pos(0, 1, 1)), word(scans.WdMark, "..", pos(2, 1, 3))}},
		{". .", []scans.Word{word(scans.WdMark, ".", pos(0, 1, 1)), word(scans.WdMark, ".", pos(2, 1, 3))}},
		{"'a'[b]'c'", []scans.Word{
			word(scans.WdText, "a", pos(0, 1, 1)), word(scans.WdSet, "", pos(3, 1, 4), span('b', 'b')), word(scans.WdText, "c", pos(6, 1, 7)),
		}},
	} {
		if words := scanned(t, k.s); !same(words, k.want) {
			t.Errorf("Scan(%q): %v", k.s, words)
		}
	}
	for _, m := range []string{"=>", "..", ":", ";", "|", "(", ")", "?", "*", "+", "=", "{", "}", ".", "~"} {
		if words := scanned(t, m); !same(words, []scans.Word{word(scans.WdMark, m, pos(0, 1, 1))}) {
			t.Errorf("Scan(%q): %v", m, words)
		}
	}
}

// P2.1: what stands between words, and the places behind it.
func TestGaps(t *testing.T) {
	for _, k := range []struct {
		s  string
		at api.Pos
	}{
		{" a", pos(1, 1, 2)},
		{"\ta", pos(1, 1, 2)},
		{"\ra", pos(1, 1, 2)},
		{"\na", pos(1, 2, 1)},
		{"\r\n\n a", pos(4, 3, 2)},
		{"//\na", pos(3, 2, 1)},
		{"// a ' [ /* \u00e9 \\\n a", pos(18, 2, 2)},
		{"///**/\na", pos(7, 2, 1)},
		{"/**/a", pos(4, 1, 5)},
		{"/***/a", pos(5, 1, 6)},
		{"/*/*/a", pos(5, 1, 6)},
		{"/*/**/a", pos(6, 1, 7)},
		{"/* \u20ac\n// */a", pos(12, 2, 6)},
		{"/**//**/ //\n/*\n*/a", pos(17, 3, 3)},
		{"/* ' [ _ # */a", pos(13, 1, 14)},
	} {
		if words := scanned(t, k.s); !same(words, []scans.Word{word(scans.WdName, "a", k.at)}) {
			t.Errorf("Scan(%q): %v", k.s, words)
		}
	}
	for _, s := range []string{"//", "// x", "/**/", "\n\n", "/* */ // */"} {
		if words := scanned(t, s); len(words) != 0 {
			t.Errorf("Scan(%q): %v", s, words)
		}
	}
	for _, s := range []string{"a/**/b", "a//b\nb", "a\nb", "a\r\tb"} {
		if words := scanned(t, s); len(words) != 2 || words[0].Text != "a" || words[1].Text != "b" {
			t.Errorf("Scan(%q): %v", s, words)
		}
	}
}

// P2.1
func TestTexts(t *testing.T) {
	for s, want := range map[string]string{
		`'a'`:                  "a",
		`'abc'`:                "abc",
		`'\''`:                 "'",
		`'\\'`:                 `\`,
		`'\\\''`:               `\'`,
		`'\n\r\t\]\-\['`:       "\n\r\t]-[",
		`'[a-b]'`:              "[a-b]",
		`'// /* '`:             "// /* ",
		`'\u{e9}\u{10FFFF}'`:   "\u00e9\U0010ffff",
		`'\u{0}'`:              "\x00",
		`'\u{000041}1}'`:       "A1}",
		"'\u00e9\u20ac\ufffd'": "\u00e9\u20ac\ufffd",
		"'\t\r \x00\x7f\"'":    "\t\r \x00\x7f\"",
	} {
		if words := scanned(t, s); !same(words, []scans.Word{word(scans.WdText, want, pos(0, 1, 1))}) {
			t.Errorf("Scan(%q): %v", s, words)
		}
	}
}

// P2.1
func TestSets(t *testing.T) {
	for s, want := range map[string][]api.Range{
		"[a]":                  {span('a', 'a')},
		"[a-c]":                {span('a', 'c')},
		"[a-a]":                {span('a', 'a')},
		"[cab]":                {span('c', 'c'), span('a', 'a'), span('b', 'b')},
		"[b-za-cb-z]":          {span('b', 'z'), span('a', 'c'), span('b', 'z')}, // as they are written
		"[aa]":                 {span('a', 'a'), span('a', 'a')},
		`[\--\]]`:              {span('-', ']')},
		`[\[-\]]`:              {span('[', ']')},
		`[!-\-]`:               {span('!', '-')},
		`[\\\'\n]`:             {span('\\', '\\'), span('\'', '\''), span('\n', '\n')},
		`[\u{0}-\u{10ffff}]`:   {span(0, 0x10ffff)},
		`[\u{d7ff}-\u{e000}x]`: {span(0xd7ff, 0xe000), span('x', 'x')},
		"[\u00e9-\u20ac]":      {span(0xe9, 0x20ac)},
		"['^]":                 {span('\'', '\''), span('^', '^')},
		"[ \t\r]":              {span(' ', ' '), span('\t', '\t'), span('\r', '\r')},
		"[//*]":                {span('/', '/'), span('/', '/'), span('*', '*')},
	} {
		if words := scanned(t, s); !same(words, []scans.Word{word(scans.WdSet, "", pos(0, 1, 1), want...)}) {
			t.Errorf("Scan(%q): %v", s, words)
		}
	}
}

// P2.1: where no word begins.
func TestNoWord(t *testing.T) {
	for _, s := range []string{"_", "_a", "/", "/ *", ">", "-", "]", "\\", "\"", "#", "&", ",", "<", "@", "^", "`", "!", "$", "%", "\x00", "\x0b", "\x0c", "\x7f", "\u0085", "\u00a0", "\u00e9", "\u0660", "\ufeff", "\ufffd", "\U0001d7d9"} {
		faulty(t, s, api.ErrForm, pos(0, 1, 1))
		faulty(t, "a/*\u00e9*/\n "+s, api.ErrForm, pos(9, 2, 2))
	}
	faulty(t, "=>>", api.ErrForm, pos(2, 1, 3))
	faulty(t, "a\u00e9", api.ErrForm, pos(1, 1, 2))
	faulty(t, "'\u00e9' #", api.ErrForm, pos(5, 1, 5))
}

// P2.1: a comment, a text or a set that does not end, or is none, is told at its beginning.
func TestUnended(t *testing.T) {
	for _, s := range []string{
		"/*", "/* ", "/*/", "/**", "/* * /", "/*\n//", "/*/ a",
		"'", "''", "'a", "'a\n'", "'\n'", `'\'`, `'\x'`, `'\u{110000}'`, `'\u{d800}'`, `'a\u{}'`, `'\u{0000041}'`, "'\\\n'", `'\`, `'a\u{41'`, "'a//\n'",
		"[", "[]", "[a", "[a\n]", "[\n]", "[[]", "[a[]", "[-]", "[-a]", "[a-]", "[a--]", "[--a]", "[a-b-c]", "[b-a]", "[xb-a]", "[a-b", "[a-",
		`[\]`, `[\x]`, `[a-\x]`, `[\u{e000}-\u{d7ff}]`, `[\u{d800}]`, `[\]-\[]`, "[a-\n]", "[]]", `[a\`, `[\u{0}-]`, "[\x00-]", "[\x00-\n]",
	} {
		faulty(t, s, api.ErrForm, pos(0, 1, 1))
		faulty(t, "x\n\t"+s, api.ErrForm, pos(3, 2, 2))
	}
	faulty(t, "'a'' ", api.ErrForm, pos(3, 1, 4))
	faulty(t, "/**/*/", api.ErrForm, pos(5, 1, 6))
	faulty(t, "[a]]", api.ErrForm, pos(3, 1, 4))
	faulty(t, `[\-]-]`, api.ErrForm, pos(4, 1, 5))
}

// P2.1: the limits themselves are allowed; one more is not.
func TestLimits(t *testing.T) {
	name := "b" + strings.Repeat("_", api.MaxName-1)
	if words := scanned(t, "\n"+name+" x"); !same(words[:1], []scans.Word{word(scans.WdName, name, pos(1, 2, 1))}) || len(words) != 2 {
		t.Errorf("the longest name: %v", words)
	}
	faulty(t, "\n"+name+"c x", api.ErrLimit, pos(1, 2, 1))
	faulty(t, ";"+name+name, api.ErrLimit, pos(1, 1, 2))
	if words := scanned(t, "000000000"+"a"); len(words) != 2 || words[0].Text != "000000000" {
		t.Errorf("the longest number: %v", words)
	}
	faulty(t, ";0000000001", api.ErrLimit, pos(1, 1, 2))
	faulty(t, strings.Repeat("9", 100), api.ErrLimit, pos(0, 1, 1))

	for _, s := range []string{" ", ";", "\n", "'", "[", "//", "/*", "a ", "_", "\u00e9", "\xff"} {
		long := strings.Repeat(s, api.MaxText)
		faulty(t, long[:api.MaxText]+"x", api.ErrLimit, pos(0, 1, 1))
		if _, fault := scans.Scan(long[:api.MaxText]); fault.E == api.ErrLimit {
			t.Errorf("%q, MaxText bytes of it: fault %v", s, fault)
		}
	}
	if words := scanned(t, strings.Repeat(";", api.MaxText)); len(words) != api.MaxText {
		t.Errorf("%d words", len(words))
	}
	inner := strings.Repeat("x", api.MaxText-2) // texts, sets and comments have no limit of their own
	if words := scanned(t, "'"+inner+"'"); len(words) != 1 || words[0].Text != inner {
		t.Error("the longest text")
	}
	if words := scanned(t, "["+inner+"]"); len(words) != 1 || len(words[0].Set) != len(inner) {
		t.Error("the longest set")
	}
}

// P2.1: which fault comes first.
func TestFirstFault(t *testing.T) {
	long := strings.Repeat("a", api.MaxName+1)
	full := strings.Repeat(" ", api.MaxText)
	for _, k := range []struct {
		s  string
		e  api.Errno
		at api.Pos
	}{
		{"\xff" + full, api.ErrLimit, pos(0, 1, 1)}, // ahead of a byte that is no rune's
		{"_" + full, api.ErrLimit, pos(0, 1, 1)},
		{"_ \xff", api.ErrForm, pos(2, 1, 3)}, // a byte that is no rune's ahead of all else
		{long + "\n\xff", api.ErrForm, pos(api.MaxName+2, 2, 1)},
		{"'' \u00e9\xff", api.ErrForm, pos(5, 1, 5)},
		{"[b-a]\xc3", api.ErrForm, pos(5, 1, 6)},
		{"/* \xe2\x82", api.ErrForm, pos(3, 1, 4)},
		{"// \x80\n'", api.ErrForm, pos(3, 1, 4)},
		{"a '\xff'", api.ErrForm, pos(3, 1, 4)},
		{"[\xed\xa0\x80]", api.ErrForm, pos(1, 1, 2)},
		{"\xff\xfe", api.ErrForm, pos(0, 1, 1)},
		{"'a \xc0\x80", api.ErrForm, pos(3, 1, 4)},
		{"_ " + long, api.ErrForm, pos(0, 1, 1)},
		{long + " _", api.ErrLimit, pos(0, 1, 1)},
		{"'' " + long, api.ErrForm, pos(0, 1, 1)},
		{"1234567890 ''", api.ErrLimit, pos(0, 1, 1)},
		{"/* " + long, api.ErrForm, pos(0, 1, 1)},
		{long + "/*", api.ErrLimit, pos(0, 1, 1)},
		{"; [b-a] ''", api.ErrForm, pos(2, 1, 3)},
		{"; '' [b-a]", api.ErrForm, pos(2, 1, 3)},
	} {
		faulty(t, k.s, k.e, k.at)
	}
}

// The words' forms as expressions, to hold the package against words that are told in another way.
var (
	escape  = `\\(?:[nrt\\'\]\-\[]|u\{[0-9a-fA-F]{1,6}\})`
	inText  = regexp.MustCompile(`^(?:` + escape + `|[^'\\\n])`)
	inSet   = regexp.MustCompile(`^(` + escape + `|[^\]\[\\\n-])(?:-(` + escape + `|[^\]\[\\\n-]))?`)
	gapForm = regexp.MustCompile(`^(?:[ \t\r\n]|//[^\n]*|/\*(?s:.*?)\*/)*`)
	forms   = map[scans.Kind]*regexp.Regexp{
		scans.WdName: regexp.MustCompile(`^[A-Za-z][A-Za-z0-9_]*`),
		scans.WdNum:  regexp.MustCompile(`^[0-9]+`),
		scans.WdText: regexp.MustCompile(`^'(?:` + escape + `|[^'\\\n])+'`),
		scans.WdSet:  regexp.MustCompile(`^\[(?:(?:` + escape + `|[^\]\[\\\n-])(?:-(?:` + escape + `|[^\]\[\\\n-]))?)+\]`),
		scans.WdMark: regexp.MustCompile(`^(?:=>|\.\.|[:;|()?*+={}.~])`),
	}
)

// meant tells the rune that is written; false, if it is the number of none.
func meant(s string) (rune, bool) {
	if s[0] != '\\' {
		return []rune(s)[0], true
	}
	if s[1] == 'u' {
		n, _ := strconv.ParseInt(s[3:len(s)-1], 16, 32)
		return rune(n), n <= 0x10ffff && (n < 0xd800 || n > 0xdfff)
	}
	if i := strings.IndexByte("nrt", s[1]); i >= 0 {
		return rune("\n\r\t"[i]), true
	}
	return rune(s[1]), true
}

// filled makes a word of what its form has found.
func filled(k scans.Kind, found string) (scans.Word, api.Errno) {
	w := scans.Word{Kind: k, Text: found}
	good := true
	look := func(s string) rune {
		r, ok := meant(s)
		good = good && ok
		return r
	}
	switch {
	case k == scans.WdName && len(found) > api.MaxName, k == scans.WdNum && len(found) > 9:
		return scans.Word{}, api.ErrLimit
	case k == scans.WdText:
		w.Text = ""
		for rest := found[1 : len(found)-1]; rest != ""; {
			one := inText.FindString(rest)
			w.Text += string(look(one))
			rest = rest[len(one):]
		}
	case k == scans.WdSet:
		w.Text = ""
		for rest := found[1 : len(found)-1]; rest != ""; {
			ends := inSet.FindStringSubmatch(rest)
			r := span(look(ends[1]), 0)
			if r.High = r.Low; ends[2] != "" {
				r.High = look(ends[2])
			}
			good = good && r.Low <= r.High
			w.Set = append(w.Set, r)
			rest = rest[len(ends[0]):]
		}
	}
	if !good {
		return scans.Word{}, api.ErrForm
	}
	return w, api.OK
}

// told tells a text's words by their forms.
func told(s string) ([]scans.Word, scans.Fault) {
	if len(s) > api.MaxText {
		return nil, scans.Fault{E: api.ErrLimit, At: runes.Place(s, 0)}
	}
	if at := runes.Bad(s); at >= 0 {
		return nil, scans.Fault{E: api.ErrForm, At: runes.Place(s, at)}
	}
	var words []scans.Word
	for at := len(gapForm.FindString(s)); at < len(s); at += len(gapForm.FindString(s[at:])) {
		w, e := scans.Word{}, api.ErrForm
		size := 0
		for k, form := range forms { // no two forms begin alike
			if found := form.FindString(s[at:]); found != "" {
				w, e = filled(k, found)
				size = len(found)
			}
		}
		w.At = runes.Place(s, at)
		if e != api.OK {
			return nil, scans.Fault{E: e, At: w.At}
		}
		words = append(words, w)
		at += size
	}
	return words, scans.Fault{}
}

// strange hands out all texts of so many of these pieces at most.
func strange(n int, pieces []string, f func(s string)) {
	f("")
	var more func(n int, ahead string)
	more = func(n int, ahead string) {
		for _, p := range pieces {
			f(ahead + p)
			if n > 1 {
				more(n-1, ahead+p)
			}
		}
	}
	more(n, "")
}

// texts hands out texts that go wrong most easily, and the sample with a piece of it taken out, or put in at another place.
func texts(f func(s string)) {
	f(sample)
	strange(3, []string{"a", "Z", "0", "_", " ", "\n", "\r", "/", "*", "/*", "*/", "//", "'", "[", "]", "-", "\\", "\\n", "\\u{41}", "\\u{d800}", "=", "=>", ">", ".", "..", ":", "~", "\u00e9", "\xff", "123456789", strings.Repeat("x", 64)}, f)
	strange(6, []string{"a", "b-", "'", "[", "]", "\\"}, f)
	strange(6, []string{"/", "*", "\n", "a"}, f)
	strange(5, []string{"'", "\\'", "a", "\n", "''", "\\\\"}, f)
	for i := range len(sample) {
		f(sample[i:])
		f(sample[:i])
		f(sample[:i] + sample[i+1:])
		f(sample[:i] + "\\" + sample[i:])
		f(sample[:i] + sample[(i*7)%len(sample):])
	}
}

// P2.1, R1, R2, R5
func TestWordsAreTheirForms(t *testing.T) {
	texts(func(s string) {
		words, fault := scans.Scan(s)
		want, wrong := told(s)
		if fault != wrong || !same(words, want) {
			t.Fatalf("Scan(%q): %v, %v; want %v, %v", s, words, fault, want, wrong)
		}
		again, twice := scans.Scan(s)
		if twice != fault || !same(again, words) {
			t.Fatalf("Scan(%q): not the same again", s)
		}
	})
}

// P2.1: the field that a kind has nothing of is empty.
func TestFields(t *testing.T) {
	for _, w := range scanned(t, sample) {
		if w.Kind == scans.WdSet != (w.Text == "") || w.Kind == scans.WdSet != (len(w.Set) > 0) || w.Kind > scans.WdMark {
			t.Errorf("word %v", w)
		}
	}
}

// P2.1: places that are told word by word are those that are counted from the beginning.
func TestPlaces(t *testing.T) {
	s := strings.Repeat(sample+"\n", 3) + strings.Repeat("'\u00e9\U0001f600'/*\n\u00e9*/[\u20ac]", 50)
	for _, w := range scanned(t, s) {
		if w.At != runes.Place(s, w.At.At) {
			t.Fatalf("word %v: its place is %v", w, runes.Place(s, w.At.At))
		}
	}
	faulty(t, s+"\n '\u00e9' #", api.ErrForm, runes.Place(s+"\n '\u00e9' #", len(s)+7))
}

// anew writes a word again: of a rune its text, or itself.
func anew(w scans.Word) string {
	switch w.Kind {
	case scans.WdText:
		out := ""
		for _, r := range w.Text {
			out += runes.Text(r)
		}
		return "'" + out + "'"
	case scans.WdSet:
		out := ""
		for _, r := range w.Set {
			out += runes.Text(r.Low)
			if r.High != r.Low {
				out += "-" + runes.Text(r.High)
			}
		}
		return "[" + out + "]"
	}
	return w.Text
}

// P2.2
func TestWordsWrittenAnew(t *testing.T) {
	gaps := []string{" ", "\n", "\t\r\n", "/**/", "//\n", " // '\n", "/* [ ' // \u00e9\n */", "/*/ */"}
	texts(func(s string) {
		words, fault := scans.Scan(s)
		if fault.E != api.OK {
			return
		}
		var parts []string
		for _, w := range words {
			parts = append(parts, anew(w))
		}
		for _, gap := range gaps {
			for _, round := range []string{"", gap} {
				again := round + strings.Join(parts, gap) + round
				if got := scanned(t, again); !same(bare(got), bare(words)) {
					t.Fatalf("Scan(%q), written anew of %q: %v", again, s, got)
				}
			}
		}
	})
}

// R4: nothing is in the room behind what is answered, and no two lists share any.
func TestRoom(t *testing.T) {
	s := sample + strings.Repeat(" [abc] ", 99)
	words := scanned(t, s)
	if cap(words) != len(words) {
		t.Errorf("%d words, room for %d", len(words), cap(words))
	}
	for i, w := range words {
		if cap(w.Set) != len(w.Set) {
			t.Errorf("word %d: %d ranges, room for %d", i, len(w.Set), cap(w.Set))
		}
	}
	want := scanned(t, s)
	for i := range words { // whatever is done with an answer, a later one has none of it, nor have other parts of it
		for j := range words[i].Set {
			words[i].Set[j] = span(1, 0)
		}
		_ = append(words[i].Set, span(3, 2))
		if i+1 < len(words) && !reflect.DeepEqual(words[i+1:], want[i+1:]) {
			t.Fatalf("word %d shares memory with others", i)
		}
		words[i] = scans.Word{}
	}
	if !same(scanned(t, s), want) {
		t.Error("a later answer is another one")
	}
}

// R1, R4: words stay what they are when the text's memory becomes something else.
func TestTextIsNotKept(t *testing.T) {
	text := []byte(sample)
	words := scanned(t, unsafe.String(&text[0], len(text)))
	if string(text) != sample {
		t.Fatal("the text is changed")
	}
	clear(text)
	if !same(words, scanned(t, sample)) {
		t.Error("words share memory with their text")
	}
}

// R1: long texts of whatever kind end with an answer, and without words, if there is a fault.
func TestLongTexts(t *testing.T) {
	for _, s := range []string{"'", "[", "/*", "//", "\\", "a-", "[a", "[a-", "'\\", "''", "[]", "*/", "\\u{", "'\\u{41}", "a\n", "\u00e9", "/**/", "[a]", "'a'", "=>", "1 ", "'a'..'b'"} {
		for _, ahead := range []string{"", "'", "[", "/*", "//", ";"} {
			text := ahead + strings.Repeat(s, api.MaxText)[:api.MaxText-len(ahead)]
			words, fault := scans.Scan(text)
			if (fault.E != api.OK) != (fault != scans.Fault{}) || fault.E != api.OK && len(words) != 0 {
				t.Errorf("%q, and many of %q: %d words, fault %v", ahead, s, len(words), fault)
			}
		}
	}
}
