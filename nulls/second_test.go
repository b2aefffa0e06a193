package nulls_test

import (
	"math/rand/v2"
	"slices"
	"testing"

	"harbinger/api"
	. "harbinger/made"
	"harbinger/nulls"
)

// A second reading of the chapter's words, by sets of rules as bits: rules that may be empty are looked for among all sets of them, and what is reached by walks that are as long as there are rules.

// first is the first rule of a name that fits; -1: the first one of that name does not, or there is none.
func first(g api.Grammar, name string, fits func(api.Sort) bool) int {
	for i, r := range g.Rules {
		if r.Name == name {
			if fits(r.Sort) {
				return i
			}
			return -1
		}
	}
	return -1
}

func isParser(s api.Sort) bool { return s == api.SParser }
func isOther(s api.Sort) bool  { return s != api.SParser }

// meant is the rule that KRef or KTok stands for in that rule; -1: none.
func meant(g api.Grammar, in int, n api.Node) int {
	switch {
	case n.Kind == api.KRef:
		return first(g, n.Name, isParser)
	case n.Kind == api.KTok && isOther(g.Rules[in].Sort):
		return first(g, n.Name, isOther)
	}
	return -1
}

// mayBe tells whether a node in a rule may be empty, if just those rules may.
func mayBe(g api.Grammar, in int, n api.Node, rules uint) bool {
	count := 0
	for _, s := range n.Subs {
		if mayBe(g, in, s, rules) {
			count++
		}
	}
	switch n.Kind {
	case api.KSeq:
		return count == len(n.Subs)
	case api.KAlts, api.KPlus:
		return count > 0
	case api.KOpt, api.KStar, api.KPred:
		return true
	case api.KLit:
		return len(n.Text) == 0
	}
	to := meant(g, in, n)
	return to >= 0 && rules>>to&1 == 1
}

// fewest are what all those sets of rules have in common, of which each rule's body that may be empty has its rule in it.
func fewest(g api.Grammar) uint {
	all := uint(1)<<len(g.Rules) - 1
	common := all
	for set := range all + 1 {
		closed := true
		for i, r := range g.Rules {
			if mayBe(g, i, r.Body, set) && set>>i&1 == 0 {
				closed = false
			}
		}
		if closed {
			common &= set
		}
	}
	return common
}

// atOnce are the rules that a node in a rule reaches at once, if just those rules may be empty.
func atOnce(g api.Grammar, in int, n api.Node, rules uint) (set uint) {
	switch n.Kind {
	case api.KSeq, api.KAlts, api.KOpt, api.KStar, api.KPlus, api.KPred:
		for i, s := range n.Subs {
			if n.Kind != api.KSeq || mayBe(g, in, Node(api.KSeq, n.Subs[:i]...), rules) {
				set |= atOnce(g, in, s, rules)
			}
		}
	}
	if to := meant(g, in, n); to >= 0 {
		set |= 1 << to
	}
	return set
}

// walked are the rules to which a walk leads from one on.
func walked(steps []uint, from int) uint {
	set := steps[from]
	for range steps {
		for i, next := range steps {
			if set>>i&1 == 1 {
				set |= next
			}
		}
	}
	return set
}

// bits are marks as a set.
func bits(l []bool) (set uint) {
	for i, x := range l {
		if x {
			set |= 1 << i
		}
	}
	return set
}

// reread holds what is told of a grammar against the second reading, and what follows (P5.3).
func reread(t *testing.T, g api.Grammar) {
	t.Helper()
	want := fewest(g)
	empty, reach := nulls.Empty(g), nulls.Reach(g)
	if len(empty) != len(g.Rules) || len(reach) != len(g.Rules) || bits(empty) != want {
		t.Fatalf("Empty(%v): %s, not %b", g.Rules, marks(empty), want)
	}
	var steps []uint
	for i, r := range g.Rules {
		steps = append(steps, atOnce(g, i, r.Body, want))
		if nulls.May(g, i, r.Body) != empty[i] {
			t.Fatalf("May(%v, %d): %t", g.Rules, i, !empty[i])
		}
		for _, s := range r.Body.Subs {
			if nulls.May(g, i, s) != mayBe(g, i, s, want) {
				t.Fatalf("May(%v, %d, %v)", g.Rules, i, s)
			}
		}
	}
	for i, row := range reach {
		if len(row) != len(g.Rules) || bits(row) != walked(steps, i) {
			t.Fatalf("Reach(%v): %d reaches %s, not %b", g.Rules, i, marks(row), walked(steps, i))
		}
		for j, there := range row {
			if there && bits(row)|bits(reach[j]) != bits(row) {
				t.Fatalf("Reach(%v): what %d reaches is not reached by %d", g.Rules, j, i)
			}
		}
	}
}

// P5.1 to P5.3: all small bodies, in rules of each sort, with another rule that may be empty, that may not, and that is as this one is.
func TestSmallBodies(t *testing.T) {
	kinds := []api.Kind{api.KAlts, api.KSeq, api.KOpt, api.KStar, api.KPlus, api.KPred}
	leaves := []api.Node{Ref("a"), Ref("b"), Tok("a"), Tok("b"), Lit(""), Set('x', 'y')}
	for _, k := range kinds {
		leaves = append(leaves, Node(k))
	}
	bodies := slices.Concat(Grown(3, kinds, leaves)...)
	count := 0
	for _, body := range bodies {
		for _, other := range []api.Node{Seq(), Tok("a"), Ref("a"), Opt(Ref("b"), Lit("x"))} {
			for sorts := range 4 {
				reread(t, Grammar(Rule(api.Sort(sorts&1), "a", body), Rule(api.Sort(sorts>>1), "b", other)))
				count++
			}
		}
	}
	if len(bodies) < 1000 || count != 16*len(bodies) {
		t.Errorf("%d bodies, %d grammars", len(bodies), count)
	}
}

// P5.1 to P5.3: all pairs of smaller bodies.
func TestPairs(t *testing.T) {
	kinds := []api.Kind{api.KAlts, api.KSeq, api.KOpt, api.KPlus}
	bodies := slices.Concat(Grown(2, kinds, []api.Node{Ref("a"), Ref("b"), Tok("a"), Tok("b"), Lit("x"), Alts(), Seq(), Opt(), Plus()})...)
	bodies = append(bodies, Seq(Ref("a"), Ref("b")), Seq(Ref("b"), Ref("a")), Alts(Ref("a"), Ref("b")), Seq(Tok("b"), Tok("a")), Alts(Tok("a"), Lit("")))
	for _, a := range bodies {
		for _, b := range bodies {
			for _, sort := range []api.Sort{api.SParser, api.SFragment} {
				reread(t, Grammar(Rule(sort, "a", a), Rule(api.SParser, "b", b)))
				reread(t, Grammar(Rule(sort, "a", a), Rule(api.SSkip, "b", b)))
			}
		}
	}
}

// P5.1 to P5.3: whatever rules, some with one name, of whatever sorts.
func TestWhateverRules(t *testing.T) {
	r := rand.New(rand.NewPCG(5, 3))
	for range 20000 {
		g := api.Grammar{Rules: Whatever(r.IntN, api.KSeq, api.KSeq, api.KAlts, api.KRef, api.KTok)}
		reread(t, g)
	}
}
