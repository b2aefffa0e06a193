package grams_test

import (
	"reflect"
	"slices"
	"strings"
	"testing"
	"unicode/utf8"

	"harbinger/api"
	"harbinger/grams"
	. "harbinger/made"
	"harbinger/nodes"
	"harbinger/runes"
	"harbinger/scans"
)

// What may stand next in a body.
const (
	begins = iota // an alternative's first word
	behind        // what may be behind an element, also how often it may be there
	over          // the same, but not how often
	dots          // the text behind ..
	tilde         // the set behind ~
	ended         // nothing: the body is over
	never         // nothing: a word may not stand there
)

// state is where one is among a body's words.
type state struct {
	next   int
	open   []bool // of each bracket that is open, whether it is an alternative's first word
	looks  bool   // whether the element may be a predicate
	single string // the element, if it is a text that may begin a range
}

// stepped tells by the chapter's words where one is behind one word more of a parser's rule, or of another one.
func stepped(s state, w string, token bool) state {
	at := func(next int) state { return state{next: next, open: s.open} }
	element := s.next == begins || s.next == behind || s.next == over
	text := strings.Trim(w, "'")
	switch {
	case s.next == dots:
		if w[0] == '\'' && utf8.RuneCountInString(text) == 1 && text >= s.single {
			return at(behind)
		}
	case s.next == tilde:
		if w[0] == '[' && w != all {
			return at(behind)
		}
	case !element:
	case w == "(":
		return state{next: begins, open: append(slices.Clone(s.open), s.next == begins)}
	case w == ")" && len(s.open) > 0:
		last := len(s.open) - 1
		return state{next: behind, open: s.open[:last], looks: s.open[last] && !token}
	case w == "|":
		return at(begins)
	case w == ";" && len(s.open) == 0:
		return at(ended)
	case 'A' <= w[0] && w[0] <= 'Z', 'a' <= w[0] && w[0] <= 'z' && !token, (w == "." || w[0] == '[') && token:
		return at(behind)
	case w[0] == '\'' && token:
		next := at(behind)
		if utf8.RuneCountInString(text) == 1 {
			next.single = text
		}
		return next
	case w == "~" && token:
		return at(tilde)
	case (w == "?" || w == "*" || w == "+") && s.next == behind, w == "=>" && s.looks:
		return at(over)
	case w == ".." && s.single != "":
		return state{next: dots, open: s.open, single: s.single}
	}
	return at(never)
}

// all is a set of which there are no other runes.
const all = `[\u{0}-\u{10ffff}]`

// item is a word, or a node that was made of some.
type item struct {
	word string
	node api.Node
}

// made tells by the chapter's words what a body's words are as a node, the innermost brackets first.
func made(words []string) api.Node {
	var items []item
	for _, w := range words {
		items = append(items, item{word: w})
	}
	is := func(w string) func(item) bool { return func(i item) bool { return i.word == w } }
	for {
		to := slices.IndexFunc(items, is(")"))
		if to < 0 {
			return flat(items)
		}
		from := to - 1
		for items[from].word != "(" {
			from--
		}
		items = slices.Replace(items, from, to+1, item{node: flat(items[from+1 : to])})
	}
}

// flat makes a node of alternatives without brackets.
func flat(items []item) api.Node {
	choice := [][]api.Node{nil}
	for i := 0; i < len(items); i++ {
		row := &choice[len(choice)-1]
		w := items[i].word
		switch {
		case w == "|":
			choice = append(choice, nil)
			continue
		case w == "..":
			i++
			from, _ := utf8.DecodeRuneInString((*row)[len(*row)-1].Text)
			to, _ := utf8.DecodeRuneInString(items[i].word[1:])
			(*row)[len(*row)-1] = Set(from, to)
			continue
		case w == "?" || w == "*" || w == "+" || w == "=>":
			k := map[string]api.Kind{"?": api.KOpt, "*": api.KStar, "+": api.KPlus, "=>": api.KPred}[w]
			(*row)[len(*row)-1] = Node(k, (*row)[len(*row)-1])
			continue
		case w == "~":
			i++
			w += items[i].word
		}
		*row = append(*row, leaf(w, items[i].node))
	}
	one := func(k api.Kind, l []api.Node) api.Node {
		if len(l) == 1 {
			return l[0]
		}
		return Node(k, l...)
	}
	var l []api.Node
	for _, row := range choice {
		l = append(l, one(api.KSeq, row))
	}
	return one(api.KAlts, l)
}

// leaf is what a word is, or what was made already.
func leaf(w string, n api.Node) api.Node {
	switch {
	case w == "":
		return n
	case w == ".":
		return Set(0, below, above, last)
	case w == "[s]":
		return Set('s', 's')
	case w == "~[s]":
		return Set(0, 's'-1, 's'+1, below, above, last)
	case w == all:
		return Set(0, last)
	case w[0] == '\'':
		return Lit(strings.Trim(w, "'"))
	case w[0] <= 'Z':
		return Tok(w)
	}
	return Ref(w)
}

// P4.1: all bodies of few words, held against what the chapter's words tell of them: which word may not stand, or which node they are.
func TestBodiesOfFewWords(t *testing.T) {
	brackets := []string{"A", "(", ")", "|", "*", ";"}
	for _, k := range []struct {
		most  int
		token bool
		words []string
		least int // of bodies
	}{
		{4, false, append([]string{"b", "=>", "+", "?", ".", "..", "~", "'x'", "[s]", "1", ":", "{", "}", "="}, brackets...), 90},
		{4, true, append([]string{"b", "=>", "+", "?", ".", "..", "~", "'x'", "'w'", "'xy'", "[s]", all, "1", ":", "{", "}", "="}, brackets...), 900},
		{7, false, append([]string{"=>"}, brackets...), 1200},
		{9, false, []string{"A", "(", ")", "=>", ";"}, 700},
		{6, true, append([]string{"'x'", "'y'", "..", "~", "[s]", "."}, brackets[1:]...), 9000},
	} {
		bodies := 0
		var more func(words []string, s state)
		more = func(words []string, s state) {
			for _, w := range k.words {
				words := append(slices.Clip(words), w)
				next := stepped(s, w, k.token)
				if next.next == ended {
					bodies++
				}
				standing(t, words, next.next, k.token)
				if next.next < ended && len(words) < k.most {
					more(words, next)
				}
			}
		}
		more(nil, state{})
		if bodies < k.least {
			t.Errorf("no more than %d bodies", bodies)
		}
	}
}

// standing looks whether a body's words, of which at most the last one may not stand, are told as what they are.
func standing(t *testing.T, words []string, next int, token bool) {
	t.Helper()
	r := Rule(api.SParser, "a", api.Node{})
	if token {
		r = Rule(api.Sort(1+len(words)%3), "A", api.Node{})
	}
	s := head + [...]string{"a : ", "A : ", "fragment A : ", "skip A : "}[r.Sort] + strings.Join(words, " ")
	g, fault := grams.Read(s)
	want := scans.Fault{E: api.ErrForm}
	switch next {
	case never:
		want.At = runes.Place(s, len(s)-len(words[len(words)-1]))
	case ended:
		r.Body = made(words[:len(words)-1])
		if nodes.Plain(r.Body, token) {
			if !same(g, Grammar(r)) || fault != (scans.Fault{}) {
				t.Fatalf("Read(%q): fault %v, %v; want %v", s, fault, g, r.Body)
			}
			return
		}
		want = scans.Fault{E: api.ErrLimit, At: runes.Place(s, len(head))}
	default:
		want.At = runes.Place(s, len(s))
	}
	if fault != want || !reflect.DeepEqual(g, api.Grammar{}) {
		t.Fatalf("Read(%q): fault %v; want %v", s, fault, want)
	}
}

// follows tells by the chapter's words which word may follow where in a grammar, and where one is behind it: the word itself, or else one of its kind. In a body only what its end is looked at.
var follows = map[string]map[string]string{
	"":                {"grammar": "grammar"},
	"grammar":         {"small": "name", "big": "name"},
	"name":            {";": "head"},
	"head":            {"options": "options", "fragment": "sort", "skip": "sort", "small": "rule", "big": "rule", "grammar": "", "end": "over"},
	"options":         {"{": "none"},
	"none":            {"bound": "bound", "states": "states", "}": "rules"},
	"bound":           {"=": "bound ="},
	"bound =":         {"8": "bound 8", "0": "limit", "9": "limit"},
	"bound 8":         {";": "one"},
	"one":             {"states": "states, bound", "}": "rules"},
	"states":          {"=": "states ="},
	"states =":        {"8": "states 8", "0": "limit", "9": "states 8"},
	"states 8":        {";": "other"},
	"other":           {"bound": "bound, states", "}": "rules"},
	"both":            {"}": "rules"},
	"both 8":          {";": "both"},
	"rules":           {"fragment": "sort", "skip": "sort", "small": "rule", "big": "rule", "grammar": "", "options": "", "end": "over"},
	"sort":            {"big": "rule"},
	"rule":            {":": "body"},
	"body":            {";": "rules"},
	"states, bound":   {"=": "states, bound ="},
	"states, bound =": {"8": "both 8", "0": "limit", "9": "both 8"},
	"bound, states":   {"=": "bound, states ="},
	"bound, states =": {"8": "both 8", "0": "limit", "9": "limit"},
}

// followed tells where one is behind a word; nothing: it may not stand there.
func followed(at, w string) string {
	if next, ok := follows[at][w]; ok {
		return next
	}
	switch {
	case 'a' <= w[0] && w[0] <= 'z':
		return follows[at]["small"]
	case 'A' <= w[0] && w[0] <= 'Z':
		return follows[at]["big"]
	}
	return ""
}

// worded is the grammar of words that are one, whose bodies are empty.
func worded(words []string) api.Grammar {
	g := Grammar()
	g.Name = words[1]
	for i, w := range words {
		switch {
		case w == "=" && words[i-1] == "bound":
			g.Options.Bound = int(words[i+1][0] - '0')
		case w == "=":
			g.Options.States = int(words[i+1][0] - '0')
		case w == ":" && words[i-2] == "fragment":
			g.Rules = append(g.Rules, Rule(api.SFragment, words[i-1], Seq()))
		case w == ":" && words[i-2] == "skip":
			g.Rules = append(g.Rules, Rule(api.SSkip, words[i-1], Seq()))
		case w == ":" && words[i-1] < "a":
			g.Rules = append(g.Rules, Rule(api.SToken, words[i-1], Seq()))
		case w == ":":
			g.Rules = append(g.Rules, Rule(api.SParser, words[i-1], Seq()))
		}
	}
	return g
}

// P4.1: all grammars of few words, held against what the chapter's words tell of them.
func TestGrammarsOfFewWords(t *testing.T) {
	all := []string{"grammar", "options", "bound", "states", "fragment", "skip", "b", "B", ";", ":", "=", "{", "}", "0", "8", "9", "'b'", "[b]", "|"}
	read := 0
	var more func(words []string, at string)
	more = func(words []string, at string) {
		for _, w := range all {
			if at == "body" && w != ";" && w != ":" && w != "=" { // what may stand in bodies is looked at elsewhere
				continue
			}
			words := append(slices.Clip(words), w)
			s := strings.Join(words, " ")
			g, fault := grams.Read(s)
			next := followed(at, w)
			want := scans.Fault{E: api.ErrForm, At: runes.Place(s, len(s))}
			switch {
			case next == "":
				want.At = runes.Place(s, len(s)-len(w))
			case next == "limit":
				want = scans.Fault{E: api.ErrLimit, At: runes.Place(s, len(s)-len(w))}
			case follows[next]["end"] != "":
				want = scans.Fault{}
				read++
			}
			if fault != want || fault.E == api.OK && !same(g, worded(words)) {
				t.Fatalf("Read(%q): fault %v, %v; want %v", s, fault, g, want)
			}
			if next != "" && next != "limit" && len(words) < 14 {
				more(words, next)
			}
		}
	}
	more(nil, "")
	if read < 2500 {
		t.Errorf("no more than %d are read", read)
	}
}
