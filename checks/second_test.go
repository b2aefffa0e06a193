package checks_test

import (
	"math/rand/v2"
	"slices"
	"testing"

	"harbinger/api"
	"harbinger/checks"
	. "harbinger/made"
	"harbinger/nulls"
)

// A second reading of the chapter's words, code by code: each is looked for in the whole grammar by itself, and what is found is put in order behind.

// all are a node and what is in it, as they stand.
func all(n api.Node) []api.Node {
	l := []api.Node{n}
	for _, s := range n.Subs {
		l = append(l, all(s)...)
	}
	return l
}

// leads are the rules that a rule names, by whichever nodes.
func leads(g api.Grammar, rule int) (l []int) {
	for _, n := range all(g.Rules[rule].Body) {
		if at := nulls.Find(g, n.Name); at >= 0 && (n.Kind == api.KRef || n.Kind == api.KTok) {
			l = append(l, at)
		}
	}
	return l
}

// comes tells whether a walk over rules that are no parser's, of so many steps at most, leads from one to another.
func comes(g api.Grammar, from, to, steps int) bool {
	return steps > 0 && slices.ContainsFunc(leads(g, from), func(next int) bool {
		return g.Rules[next].Sort != api.SParser && (next == to || comes(g, next, to, steps-1))
	})
}

// twice, and those below, tell the problems of one code in a rule.
func twice(g api.Grammar, i int) (l []checks.Problem) {
	for _, r := range g.Rules[:i] {
		if r.Name == g.Rules[i].Name {
			return []checks.Problem{{Code: checks.PrTwice, Rule: i, Name: r.Name}}
		}
	}
	return nil
}

// may are the sorts that a node in a rule of a sort may name.
var may = map[api.Kind]map[bool]api.Sort{api.KRef: {true: api.SParser}, api.KTok: {true: api.SToken, false: api.SFragment}}

func naming(g api.Grammar, i int) (none, sort []checks.Problem) {
	for _, n := range all(g.Rules[i].Body) {
		sorts, names := may[n.Kind]
		if !names {
			continue
		}
		want, some := sorts[g.Rules[i].Sort == api.SParser]
		at := slices.IndexFunc(g.Rules, func(r api.Rule) bool { return r.Name == n.Name })
		switch {
		case at < 0:
			none = append(none, checks.Problem{Code: checks.PrNone, Rule: i, Name: n.Name})
		case !some || g.Rules[at].Sort != want:
			sort = append(sort, checks.Problem{Code: checks.PrSort, Rule: i, Name: n.Name})
		}
	}
	return none, sort
}

func turning(g api.Grammar, i int) []checks.Problem {
	if g.Rules[i].Sort == api.SParser {
		if nulls.Reach(g)[i][i] {
			return []checks.Problem{{Code: checks.PrLeft, Rule: i, Name: g.Rules[i].Name}}
		}
	} else if comes(g, i, i, len(g.Rules)) {
		return []checks.Problem{{Code: checks.PrRound, Rule: i, Name: g.Rules[i].Name}}
	}
	return nil
}

func looping(g api.Grammar, i int) (l []checks.Problem) {
	for _, n := range all(g.Rules[i].Body) {
		if n.Kind != api.KStar && n.Kind != api.KPlus || len(n.Subs) == 0 {
			continue
		}
		if nulls.May(g, i, n.Subs[0]) {
			l = append(l, checks.Problem{Code: checks.PrLoop, Rule: i, Name: g.Rules[i].Name})
		}
	}
	return l
}

func lacking(g api.Grammar, i int) []checks.Problem {
	r := g.Rules[i]
	if (r.Sort == api.SToken || r.Sort == api.SSkip) && nulls.May(g, i, r.Body) {
		return []checks.Problem{{Code: checks.PrEmpty, Rule: i, Name: r.Name}}
	}
	return nil
}

// wrong is all that is so.
func wrong(g api.Grammar) (l []checks.Problem) {
	parsers := 0
	for i, r := range g.Rules {
		none, sort := naming(g, i)
		l = slices.Concat(l, twice(g, i), none, sort, turning(g, i), looping(g, i), lacking(g, i))
		if r.Sort == api.SParser {
			parsers++
		}
	}
	if parsers == 0 {
		l = append(l, checks.Problem{Code: checks.PrStart, Rule: -1})
	}
	return l
}

// reread holds what is told of a grammar against the second reading, and tells whether nothing is wrong.
func reread(t *testing.T, g api.Grammar) bool {
	t.Helper()
	want := wrong(g)
	if l := checks.Check(g); !slices.Equal(l, want) {
		t.Fatalf("Check(%v): %s, not %s", g.Rules, line(l), line(want))
	}
	fine := checks.Fine(g)
	if fine != (len(want) == 0) {
		t.Fatalf("Fine(%v): %t", g.Rules, fine)
	}
	if fine {
		follows(t, g)
	}
	return fine
}

// P6.3: what follows where nothing is wrong.
func follows(t *testing.T, g api.Grammar) {
	t.Helper()
	reach := nulls.Reach(g)
	for i, r := range g.Rules {
		if reach[i][i] || slices.ContainsFunc(g.Rules[:i], func(s api.Rule) bool { return s.Name == r.Name }) {
			t.Fatalf("%v: rule %d comes back, or has a name of another one", g.Rules, i)
		}
		for _, n := range all(r.Body) {
			if (n.Kind == api.KStar || n.Kind == api.KPlus) && len(n.Subs) > 0 && nulls.May(g, i, n.Subs[0]) {
				t.Fatalf("%v: a loop of rule %d takes nothing", g.Rules, i)
			}
			if (n.Kind == api.KRef || n.Kind == api.KTok) && nulls.Find(g, n.Name) < 0 {
				t.Fatalf("%v: a node of rule %d names nothing", g.Rules, i)
			}
		}
	}
}

// P6.1, P6.3: all small bodies, in rules of each sort, with another rule of each sort that may be empty, that may not, and that names the one or the other.
func TestSmallBodies(t *testing.T) {
	kinds := []api.Kind{api.KAlts, api.KSeq, api.KOpt, api.KStar, api.KPlus, api.KPred}
	leaves := []api.Node{Ref("a"), Ref("b"), Tok("a"), Tok("b"), Tok("c"), Lit("x"), Seq(), Star(), Plus()}
	fine, count := 0, 0
	for _, body := range slices.Concat(Grown(3, kinds, leaves)...) {
		for _, other := range []api.Node{Seq(), Lit("x"), Ref("a"), Seq(Lit("x"), Tok("a")), Opt(Tok("b"))} {
			for sort := api.SParser; sort <= strange; sort++ {
				for _, second := range []api.Sort{api.SParser, api.SToken, api.SFragment} {
					count++
					if reread(t, Grammar(Rule(sort, "a", body), Rule(second, "b", other), Parser("s", Seq()))) {
						fine++
					}
				}
			}
		}
	}
	if fine < 1000 || count < 50000 {
		t.Errorf("with %d of %d grammars nothing is wrong", fine, count)
	}
}

// P6.1, P6.3: whatever rules, some with one name, of whatever sorts.
func TestWhateverRules(t *testing.T) {
	r := rand.New(rand.NewPCG(6, 1))
	found := map[checks.Code]int{}
	for range 20000 {
		g := api.Grammar{Rules: Whatever(r.IntN, api.KSeq, api.KStar, api.KPlus, api.KRef, api.KTok)}
		reread(t, g)
		for _, p := range checks.Check(g) {
			found[p.Code]++
		}
	}
	for c := checks.PrTwice; c <= checks.PrStart; c++ {
		if found[c] < 100 {
			t.Error(c, found[c])
		}
	}
}

// P6.3: rules as one writes them, each of which names some behind it, or ahead of it only behind a token.
func TestSoundRules(t *testing.T) {
	r := rand.New(rand.NewPCG(6, 3))
	fine := 0
	for range 5000 {
		var rules []api.Rule
		for i := range 4 {
			rules = append(rules, Parser(string(rune('a'+i)), ordered(r, i, 3)))
		}
		if reread(t, Grammar(append(rules, Token("T", Plus(Tok("F"))), Rule(api.SFragment, "F", Lit("x")))...)) {
			fine++
		}
	}
	if fine < 500 {
		t.Errorf("with %d grammars nothing is wrong", fine)
	}
}

// ordered is a body of a rule of TestSoundRules.
func ordered(r *rand.Rand, rule, levels int) api.Node {
	which := Ref(string(rune('a' + r.IntN(4))))
	if levels == 0 {
		return Seq(Tok("T"), which)
	}
	part := ordered(r, rule, levels-1)
	switch r.IntN(7) {
	case 0:
		return Alts(part, ordered(r, rule, levels-1))
	case 1:
		return Seq(part, ordered(r, rule, levels-1))
	case 2:
		return Opt(part)
	case 3:
		return Star(part)
	case 4:
		return Plus(part)
	case 5:
		return Seq(Pred(part), part)
	}
	if rule < 3 {
		return Ref(string(rune('b' + rule + r.IntN(3-rule))))
	}
	return Tok("T")
}
