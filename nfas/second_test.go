package nfas_test

import (
	"maps"
	"math/rand/v2"
	"slices"
	"testing"
	"unicode/utf8"

	"harbinger/api"
	"harbinger/checks"
	. "harbinger/made"
	"harbinger/nfas"
)

// A second reading of the chapter's words. A token's rule is first written out: each name as the body that it leads to, each text as a row of single runes, so that its leaves are the places. Then all that is told of a node is looked for anew, pair by pair; and texts of it are made one by one.

// placed is a node that is written out; of a leaf it tells which place it is, and which runes may stand there.
type placed struct {
	kind  api.Kind // KSet: a leaf
	place int
	set   []api.Range
	subs  []placed
}

// written is a node written out; places are counted on from that number.
func written(g api.Grammar, n api.Node, next *int) placed {
	leaf := func(set []api.Range) placed {
		*next++
		return placed{kind: api.KSet, place: *next - 1, set: set}
	}
	p := placed{kind: n.Kind}
	switch n.Kind {
	case api.KTok:
		at := slices.IndexFunc(g.Rules, func(r api.Rule) bool { return r.Name == n.Name })
		return written(g, g.Rules[at].Body, next)
	case api.KSet:
		return leaf(n.Set)
	case api.KLit:
		p.kind = api.KSeq
		for s := n.Text; s != ""; {
			r, size := utf8.DecodeRuneInString(s)
			p.subs = append(p.subs, leaf(Set(r, r).Set))
			s = s[size:]
		}
	case api.KSeq, api.KAlts:
		for _, s := range n.Subs {
			p.subs = append(p.subs, written(g, s, next))
		}
	case api.KOpt, api.KStar, api.KPlus:
		for _, s := range n.Subs[:min(1, len(n.Subs))] {
			p.subs = append(p.subs, written(g, s, next))
		}
	default:
		p.kind = api.KSeq
	}
	return p
}

// without tells whether a node has a text of no places.
func without(p placed) bool {
	switch p.kind {
	case api.KSeq:
		return !slices.ContainsFunc(p.subs, func(s placed) bool { return !without(s) })
	case api.KAlts, api.KPlus:
		return slices.ContainsFunc(p.subs, without)
	}
	return p.kind != api.KSet
}

// whether all of some nodes have a text of no places.
func allWithout(l []placed) bool {
	return without(placed{kind: api.KSeq, subs: l})
}

// begins are the places with which a text of a node may begin, part by part.
func begins(p placed) (l []int) {
	if p.kind == api.KSet {
		return []int{p.place}
	}
	for i, s := range p.subs {
		if p.kind != api.KSeq || allWithout(p.subs[:i]) {
			l = append(l, begins(s)...)
		}
	}
	return l
}

// finishes are those with which one may end.
func finishes(p placed) (l []int) {
	if p.kind == api.KSet {
		return []int{p.place}
	}
	for i, s := range p.subs {
		if p.kind != api.KSeq || allWithout(p.subs[i+1:]) {
			l = append(l, finishes(s)...)
		}
	}
	return l
}

// pair is a place, and one that may come next.
type pair struct{ from, to int }

// nexts adds all pairs of a node.
func nexts(p placed, all map[pair]int) {
	add := func(a, b placed) {
		for _, from := range finishes(a) {
			for _, to := range begins(b) {
				all[pair{from, to}]++
			}
		}
	}
	for i, s := range p.subs {
		nexts(s, all)
		if p.kind == api.KStar || p.kind == api.KPlus {
			add(s, s)
		}
		for j := i + 1; j < len(p.subs); j++ {
			if p.kind == api.KSeq && allWithout(p.subs[i+1:j]) {
				add(s, p.subs[j])
			}
		}
	}
}

// texts are those of a node in which each loop's body is there twice at most; each of places.
func texts(p placed) [][]int {
	switch p.kind {
	case api.KSet:
		return [][]int{{p.place}}
	case api.KSeq:
		l := [][]int{{}}
		for _, s := range p.subs {
			l = rows(l, texts(s))
		}
		return l
	}
	var l [][]int
	for _, s := range p.subs {
		l = append(l, texts(s)...)
	}
	if p.kind == api.KStar || p.kind == api.KPlus {
		l = append(l, rows(l, l)...)
	}
	if p.kind == api.KOpt || p.kind == api.KStar {
		l = append(l, []int{})
	}
	return l
}

// rows are each of some texts with each of others behind it.
func rows(a, b [][]int) (l [][]int) {
	for _, x := range a {
		for _, y := range b {
			l = append(l, slices.Concat(x, y))
		}
	}
	return l
}

const lot = 3000

// many is how many texts a node has, if each loop's body is there twice at most; as many as a lot, if there are more.
func many(p placed) (count int) {
	switch p.kind {
	case api.KSet:
		return 1
	case api.KSeq:
		count = 1
		for _, s := range p.subs {
			count = min(lot, count*many(s))
		}
		return count
	}
	for _, s := range p.subs {
		count += many(s)
	}
	if p.kind == api.KStar || p.kind == api.KPlus {
		count += count * count
	}
	if p.kind == api.KOpt || p.kind == api.KStar {
		count++
	}
	return min(lot, count)
}

// full tells whether each part of a node has a text, and the node not a lot of them.
func full(p placed) bool {
	few := many(p)
	return few > 0 && few < lot && !slices.ContainsFunc(p.subs, func(s placed) bool { return !full(s) })
}

// neat are numbers rising, each once.
func neat(l []int) []int {
	l = slices.Clone(l)
	slices.Sort(l)
	return slices.Compact(l)
}

// leaves are a node's, in order.
func leaves(p placed) (l []placed) {
	if p.kind == api.KSet {
		return []placed{p}
	}
	for _, s := range p.subs {
		l = append(l, leaves(s)...)
	}
	return l
}

// reread holds what is made of a grammar against the second reading, and tells whether something is.
func reread(t *testing.T, g api.Grammar) bool {
	t.Helper()
	a, e := nfas.Build(g)
	if !checks.Fine(g) {
		if e != api.ErrArg {
			t.Fatalf("Build(%v): error %d", g.Rules, e)
		}
		return false
	}
	want := nfas.Auto{}
	next := 0
	for _, at := range checks.Of(g, api.SToken, api.SSkip) {
		p := written(g, g.Rules[at].Body, &next)
		want.First = append(want.First, begins(p)...)
		last, pairs := finishes(p), map[pair]int{}
		nexts(p, pairs)
		for _, leaf := range leaves(p) {
			place := nfas.Place{Set: leaf.set, Kind: want.Kinds, Last: slices.Contains(last, leaf.place)}
			for x := range pairs {
				if x.from == leaf.place {
					place.Follow = append(place.Follow, x.to)
				}
			}
			place.Follow = neat(place.Follow)
			want.Places = append(want.Places, place)
		}
		if full(p) {
			byTexts(t, g, a, p)
		}
		want.Kinds++
	}
	want.First = neat(want.First)
	if e != api.OK || !same(a, want) {
		t.Fatalf("Build(%v): error %d\n%s, not\n%s", g.Rules, e, line(a), line(want))
	}
	return true
}

// same tells whether both have the same; of no numbers, or ranges, it makes no difference whether there is a list.
func same(a, b nfas.Auto) bool {
	return a.Kinds == b.Kinds && slices.Equal(a.First, b.First) && slices.EqualFunc(a.Places, b.Places, func(p, q nfas.Place) bool {
		return p.Kind == q.Kind && p.Last == q.Last && slices.Equal(p.Follow, q.Follow) && slices.Equal(p.Set, q.Set)
	})
}

// byTexts holds what is made of a token's rule, each part of which has a text, against its texts.
func byTexts(t *testing.T, g api.Grammar, a nfas.Auto, p placed) {
	t.Helper()
	first, last, pairs := map[int]int{}, map[int]int{}, map[pair]int{}
	for _, x := range texts(p) {
		for i, at := range x {
			if i == 0 {
				first[at]++
			} else {
				pairs[pair{x[i-1], at}]++
			}
			if i == len(x)-1 {
				last[at]++
			}
		}
	}
	told, follow := 0, 0
	for _, leaf := range leaves(p) {
		at := leaf.place
		for _, to := range a.Places[at].Follow {
			if pairs[pair{at, to}] > 0 {
				told++
			}
			follow++
		}
		if a.Places[at].Last != (last[at] > 0) || slices.Contains(a.First, at) != (first[at] > 0) {
			t.Fatalf("Build(%v): %s; another end of place %d", g.Rules, line(a), at)
		}
	}
	if told != len(pairs) || follow != told {
		t.Fatalf("Build(%v): %s; %d follow, %d of those that do: %v", g.Rules, line(a), follow, told, slices.Collect(maps.Keys(pairs)))
	}
}

// smallest are bodies of a few nodes.
func smallest(most int) [][]api.Node {
	kinds := []api.Kind{api.KAlts, api.KSeq, api.KOpt, api.KStar, api.KPlus, api.KPred}
	x := []api.Node{Lit("x"), Lit("yz"), Set('a', 'b', 'x', 'x'), Seq(), Alts(), Plus(), Tok("F"), Tok("E")}
	return Grown(most, kinds, x)
}

// P8.1: all small bodies, with fragments that may be empty, and may not.
func TestSmallBodies(t *testing.T) {
	fine, count := 0, 0
	for _, body := range slices.Concat(smallest(4)...) {
		count++
		if reread(t, whole(fragment("E", Opt(Lit("e"))), Token("A", Seq(body, Lit("a"))), fragment("F", Alts(Lit("f"), Lit("gf"))))) {
			fine++
		}
	}
	if fine < 2000 || count < 10000 {
		t.Errorf("%d of %d are fine", fine, count)
	}
}

// P8.1: pairs of small bodies, as two tokens, and as one that names the other one, which is a fragment then.
func TestPairs(t *testing.T) {
	fine := 0
	all := slices.Concat(smallest(2)...)
	for _, a := range all {
		for _, b := range all {
			e, f := fragment("E", Star(Lit("e"))), fragment("F", Lit("f"))
			if reread(t, whole(e, Token("A", a), f, Rule(api.SSkip, "B", b))) {
				fine++
			}
			if reread(t, whole(Token("A", Seq(Lit("a"), a, Tok("B"), Lit("a"))), fragment("B", b), e, f)) {
				fine++
			}
		}
	}
	if fine < 3000 {
		t.Errorf("%d are fine", fine)
	}
}

// P8.1: whatever tokens.
func TestWhateverTokens(t *testing.T) {
	r := rand.New(rand.NewPCG(8, 1))
	fine := 0
	for range 30000 {
		if reread(t, Tokens(r.IntN)) {
			fine++
		}
	}
	if fine < 2000 {
		t.Errorf("%d are fine", fine)
	}
	for range 20000 {
		g := api.Grammar{Rules: Whatever(r.IntN, api.KSeq, api.KOpt, api.KTok, api.KLit, api.KSet)}
		reread(t, g)
	}
}

// walks tells of which tokens' last places a text may lead to, from first ones by such as follow; as bits.
func walks(a nfas.Auto, s string) (kinds uint) {
	open := a.First
	for i := range len(s) {
		var next []int
		for _, at := range open {
			p := a.Places[at]
			if !slices.ContainsFunc(p.Set, func(x api.Range) bool { return x.Low <= rune(s[i]) && rune(s[i]) <= x.High }) {
				continue
			}
			if i == len(s)-1 && p.Last {
				kinds |= 1 << p.Kind
			}
			next = append(next, p.Follow...)
		}
		open = neat(next)
	}
	return kinds
}

// P8.2: of which tokens each short text is one, by their rules and by their places; and places follow those of one token.
func TestFollows(t *testing.T) {
	r := rand.New(rand.NewPCG(8, 2))
	short := Short(6)
	found := 0
	for range 10000 {
		g := Tokens(r.IntN)
		if !checks.Fine(g) {
			continue
		}
		a := built(t, g)
		for i, p := range a.Places {
			for _, to := range p.Follow {
				if a.Places[to].Kind != p.Kind {
					t.Fatalf("%v: %s; %d follows %d", g.Rules, line(a), to, i)
				}
			}
		}
		for _, s := range short {
			want := uint(0)
			for kind, at := range checks.Of(g, api.SToken, api.SSkip) {
				if Matches(g, g.Rules[at].Body, s) {
					want |= 1 << kind
				}
			}
			if kinds := walks(a, s); kinds != want {
				t.Fatalf("%v: %s; %s is of tokens %b, not %b", g.Rules, line(a), s, kinds, want)
			}
			if want != 0 {
				found++
			}
		}
	}
	if found < 10000 {
		t.Errorf("%d texts of tokens", found)
	}
}
