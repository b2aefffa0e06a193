package grams

import (
	"cmp"
	"slices"
	"strconv"
	"unicode/utf8"

	"harbinger/api"
	"harbinger/nodes"
	"harbinger/scans"
)

// The options of a grammar that tells none.
const (
	usualBound  = 2
	usualStates = 256
)

const (
	below = 0xd800 - 1 // the last rune below those numbers that are no rune's
	above = 0xdfff + 1 // the first one above them
	last  = 0x10ffff
)

// left is what the functions that read are left by, from wherever they are.
type left scans.Fault

// reader has the words that are still to be read. Behind them stands a mark without a text, at the text's end: it may stand nowhere, so that what ends too soon has its fault there.
type reader struct {
	words []scans.Word
	token bool // whether the body that is read is another rule's than a parser's
}

// read makes a grammar of its words.
func read(words []scans.Word) (g api.Grammar, fault scans.Fault) {
	defer func() {
		switch x := recover().(type) {
		case nil:
		case left:
			fault = scans.Fault(x)
		default:
			panic(x)
		}
	}()
	r := reader{words: words}
	return r.grammar(), scans.Fault{}
}

func (r *reader) grammar() api.Grammar {
	r.must("grammar")
	name := r.word(scans.WdName).Text
	r.must(";")
	g := api.Grammar{Name: name, Options: r.options()}
	for len(r.words) > 1 {
		if len(g.Rules) == api.MaxRules {
			r.leave(api.ErrLimit)
		}
		g.Rules = append(g.Rules, r.rule())
	}
	g.Rules = slices.Clip(g.Rules)
	return g
}

func (r *reader) options() api.Options {
	o := api.Options{Bound: usualBound, States: usualStates}
	if !r.took("options") {
		return o
	}
	r.must("{")
	bound, states := false, false
	for !r.took("}") {
		switch {
		case !bound && r.took("bound"):
			o.Bound, bound = r.setting(api.MaxBound), true
		case !states && r.took("states"):
			o.States, states = r.setting(api.MaxStates), true
		default:
			r.leave(api.ErrForm)
		}
	}
	return o
}

// setting reads what stands behind an option's name.
func (r *reader) setting(most int) int {
	r.must("=")
	w := r.want(scans.WdNum)
	n, err := strconv.Atoi(w.Text)
	if err != nil || !within(n, most) {
		r.leave(api.ErrLimit)
	}
	r.skip()
	r.must(";")
	return n
}

func (r *reader) rule() api.Rule {
	from := r.words[0].At
	sort := r.sort()
	w := r.want(scans.WdName)
	if !named(w.Text, sort) {
		r.leave(api.ErrForm)
	}
	r.skip()
	r.must(":")
	r.token = sort != api.SParser
	body := r.alternatives(";")
	if !nodes.Plain(body, r.token) {
		panic(left{E: api.ErrLimit, At: from})
	}
	return api.Rule{Name: w.Text, Sort: sort, Body: body, At: w.At}
}

// sort tells of which sort a rule is, by what stands ahead of its name, or by that.
func (r *reader) sort() api.Sort {
	switch {
	case r.took("fragment"):
		return api.SFragment
	case r.took("skip"):
		return api.SSkip
	case big(r.words[0].Text):
		return api.SToken
	}
	return api.SParser
}

// alternatives reads them, and the mark behind them.
func (r *reader) alternatives(behind string) api.Node {
	l := []api.Node{r.one()}
	for r.took("|") {
		l = append(l, r.one())
	}
	r.must(behind)
	return whole(api.KAlts, l)
}

// one reads an alternative: it goes on as long as elements do.
func (r *reader) one() api.Node {
	var l []api.Node
	for {
		looks := len(l) == 0 && !r.token && r.at("(") // whether it may be a predicate
		n, ok := r.part()
		switch {
		case !ok:
			return whole(api.KSeq, l)
		case looks && r.took("=>"):
			n = node(api.KPred, n)
		default:
			n = r.often(n)
		}
		l = append(l, n)
	}
}

// part reads an element but for what tells how often; false: the next word begins none.
func (r *reader) part() (n api.Node, ok bool) {
	w := r.words[0]
	switch {
	case r.took("("):
		return r.alternatives(")"), true
	case w.Kind == scans.WdName && big(w.Text):
		n = api.Node{Kind: api.KTok, Name: w.Text}
	case w.Kind == scans.WdName && !r.token:
		n = api.Node{Kind: api.KRef, Name: w.Text}
	case r.token:
		return r.runes()
	default:
		return api.Node{}, false
	}
	r.skip()
	return n, true
}

// often reads what tells how often a node may be there.
func (r *reader) often(n api.Node) api.Node {
	switch {
	case r.took("?"):
		return node(api.KOpt, n)
	case r.took("*"):
		return node(api.KStar, n)
	case r.took("+"):
		return node(api.KPlus, n)
	}
	return n
}

// runes reads an element that only other rules than a parser's have; false: the next word begins none.
func (r *reader) runes() (n api.Node, ok bool) {
	w := r.words[0]
	switch {
	case r.took("."):
		return set(others(nil)...), true
	case r.took("~"):
		l := others(r.want(scans.WdSet).Set)
		if len(l) == 0 {
			r.leave(api.ErrForm)
		}
		r.skip()
		return set(l...), true
	case w.Kind == scans.WdSet:
		r.skip()
		return set(w.Set...), true
	case w.Kind == scans.WdText:
		r.skip()
		return r.text(w.Text), true
	}
	return api.Node{}, false
}

// text reads what may stand behind a text: a range's end.
func (r *reader) text(s string) api.Node {
	low, ok := single(s)
	if !ok || !r.took("..") {
		return api.Node{Kind: api.KLit, Text: s}
	}
	high, ok := single(r.want(scans.WdText).Text)
	if !ok || high < low {
		r.leave(api.ErrForm)
	}
	r.skip()
	return set(api.Range{Low: low, High: high})
}

// at tells whether the next word is that mark, or that name.
func (r *reader) at(text string) bool {
	w := r.words[0]
	return w.Text == text && (w.Kind == scans.WdName || w.Kind == scans.WdMark)
}

// took goes on behind that mark, or that name, if it is next.
func (r *reader) took(text string) bool {
	if !r.at(text) {
		return false
	}
	r.skip()
	return true
}

// must goes on behind that mark, or that name.
func (r *reader) must(text string) {
	if !r.took(text) {
		r.leave(api.ErrForm)
	}
}

// want tells the next word, which must be of that kind.
func (r *reader) want(k scans.Kind) scans.Word {
	w := r.words[0]
	if w.Kind != k {
		r.leave(api.ErrForm)
	}
	return w
}

// word reads one of that kind.
func (r *reader) word(k scans.Kind) scans.Word {
	w := r.want(k)
	r.skip()
	return w
}

func (r *reader) skip() {
	r.words = r.words[1:]
}

// leave ends reading with a fault at the next word.
func (r *reader) leave(e api.Errno) {
	panic(left{E: e, At: r.words[0].At})
}

// whole is the one node there is, or one of that kind that has them all.
func whole(k api.Kind, l []api.Node) api.Node {
	if len(l) == 1 {
		return l[0]
	}
	return node(k, slices.Clip(l)...)
}

func node(k api.Kind, subs ...api.Node) api.Node {
	return api.Node{Kind: k, Subs: subs}
}

func set(l ...api.Range) api.Node {
	return api.Node{Kind: api.KSet, Set: l}
}

// single tells the rune that is all of a text.
func single(s string) (r rune, ok bool) {
	r, size := utf8.DecodeRuneInString(s)
	return r, size == len(s)
}

// others tells all runes that are in none of these ranges, rising, as few ranges as may be.
func others(l []api.Range) []api.Range {
	l = append(slices.Clone(l), api.Range{Low: below + 1, High: above - 1}) // what is no rune is none of the others either
	slices.SortFunc(l, func(a, b api.Range) int { return cmp.Compare(a.Low, b.Low) })
	var out []api.Range
	next := rune(0) // all below it are told, or in a range
	for _, r := range append(l, api.Range{Low: last + 1, High: last + 1}) {
		if r.Low > next {
			out = append(out, api.Range{Low: next, High: r.Low - 1})
		}
		next = max(next, r.High+1)
	}
	return slices.Clip(out)
}
