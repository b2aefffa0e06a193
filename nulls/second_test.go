package nulls_test

import (
	"math/rand/v2"
	"slices"
	"testing"

	"harbinger/api"
	"harbinger/nulls"
)

// A second reading of the chapter's words, by sets of rules as bits: rules that may be empty are looked for among all sets of them, and what is reached by walks that are as long as there are rules.

// first is the first rule of a name that fits; -1: the first one of that name does not, or there is none.
func first(g api.Grammar, name string, fits func(api.Sort) bool) int {
	for i, r := range g.Rules {
		if r.Name == name {
			if fits(r.Sort) {
				return i
			}
			return -1
		}
	}
	return -1
}

func isParser(s api.Sort) bool { return s == api.SParser }
func isOther(s api.Sort) bool  { return s != api.SParser }

// meant is the rule that KRef or KTok stands for in that rule; -1: none.
func meant(g api.Grammar, in int, n api.Node) int {
	switch {
	case n.Kind == api.KRef:
		return first(g, n.Name, isParser)
	case n.Kind == api.KTok && isOther(g.Rules[in].Sort):
		return first(g, n.Name, isOther)
	}
	return -1
}

// mayBe tells whether a node in a rule may be empty, if just those rules may.
func mayBe(g api.Grammar, in int, n api.Node, rules uint) bool {
	count := 0
	for _, s := range n.Subs {
		if mayBe(g, in, s, rules) {
			count++
		}
	}
	switch n.Kind {
	case api.KSeq:
		return count == len(n.Subs)
	case api.KAlts, api.KPlus:
		return count > 0
	case api.KOpt, api.KStar, api.KPred:
		return true
	case api.KLit:
		return len(n.Text) == 0
	}
	to := meant(g, in, n)
	return to >= 0 && rules>>to&1 == 1
}

// fewest are what all those sets of rules have in common, of which each rule's body that may be empty has its rule in it.
func fewest(g api.Grammar) uint {
	all := uint(1)<<len(g.Rules) - 1
	common := all
	for set := range all + 1 {
		closed := true
		for i, r := range g.Rules {
			if mayBe(g, i, r.Body, set) && set>>i&1 == 0 {
				closed = false
			}
		}
		if closed {
			common &= set
		}
	}
	return common
}

// atOnce are the rules that a node in a rule reaches at once, if just those rules may be empty.
func atOnce(g api.Grammar, in int, n api.Node, rules uint) (set uint) {
	switch n.Kind {
	case api.KSeq, api.KAlts, api.KOpt, api.KStar, api.KPlus, api.KPred:
		for i, s := range n.Subs {
			if n.Kind != api.KSeq || mayBe(g, in, node(api.KSeq, n.Subs[:i]...), rules) {
				set |= atOnce(g, in, s, rules)
			}
		}
	}
	if to := meant(g, in, n); to >= 0 {
		set |= 1 << to
	}
	return set
}

// walked are the rules to which a walk leads from one on.
func walked(steps []uint, from int) uint {
	set := steps[from]
	for range steps {
		for i, next := range steps {
			if set>>i&1 == 1 {
				set |= next
			}
		}
	}
	return set
}

// bits are marks as a set.
func bits(l []bool) (set uint) {
	for i, x := range l {
		if x {
			set |= 1 << i
		}
	}
	return set
}

// reread holds what is told of a grammar against the second reading, and what follows (P5.3).
func reread(t *testing.T, g api.Grammar) {
	t.Helper()
	want := fewest(g)
	empty, reach := nulls.Empty(g), nulls.Reach(g)
	if len(empty) != len(g.Rules) || len(reach) != len(g.Rules) || bits(empty) != want {
		t.Fatalf("Empty(%v): %s, not %b", g.Rules, marks(empty), want)
	}
	var steps []uint
	for i, r := range g.Rules {
		steps = append(steps, atOnce(g, i, r.Body, want))
		if nulls.May(g, i, r.Body) != empty[i] {
			t.Fatalf("May(%v, %d): %t", g.Rules, i, !empty[i])
		}
		for _, s := range r.Body.Subs {
			if nulls.May(g, i, s) != mayBe(g, i, s, want) {
				t.Fatalf("May(%v, %d, %v)", g.Rules, i, s)
			}
		}
	}
	for i, row := range reach {
		if len(row) != len(g.Rules) || bits(row) != walked(steps, i) {
			t.Fatalf("Reach(%v): %d reaches %s, not %b", g.Rules, i, marks(row), walked(steps, i))
		}
		for j, there := range row {
			if there && bits(row)|bits(reach[j]) != bits(row) {
				t.Fatalf("Reach(%v): what %d reaches is not reached by %d", g.Rules, j, i)
			}
		}
	}
}

// grown are all nodes of so many nodes at most, of these kinds and leaves.
func grown(most int, kinds []api.Kind, leaves []api.Node) []api.Node {
	by := make([][]api.Node, most+1) // of just so many
	by[1] = slices.Clone(leaves)
	for _, k := range kinds {
		by[1] = append(by[1], node(k))
	}
	for count := 2; count <= most; count++ {
		for _, k := range kinds {
			for _, l := range lists(count-1, by) {
				by[count] = append(by[count], node(k, l...))
			}
		}
	}
	return slices.Concat(by...)
}

// lists are all of nodes that are so many together.
func lists(count int, by [][]api.Node) [][]api.Node {
	if count == 0 {
		return [][]api.Node{nil}
	}
	var all [][]api.Node
	for i := 1; i <= count; i++ {
		for _, n := range by[i] {
			for _, l := range lists(count-i, by) {
				all = append(all, append([]api.Node{n}, l...))
			}
		}
	}
	return all
}

// P5.1 to P5.3: all small bodies, in rules of each sort, with another rule that may be empty, that may not, and that is as this one is.
func TestSmallBodies(t *testing.T) {
	kinds := []api.Kind{api.KAlts, api.KSeq, api.KOpt, api.KStar, api.KPlus, api.KPred}
	leaves := []api.Node{ref("a"), ref("b"), tok("a"), tok("b"), lit(""), set('x', 'y')}
	bodies := grown(3, kinds, leaves)
	count := 0
	for _, body := range bodies {
		for _, other := range []api.Node{seq(), tok("a"), ref("a"), opt(ref("b"), lit("x"))} {
			for sorts := range 4 {
				reread(t, grammar(rule(api.Sort(sorts&1), "a", body), rule(api.Sort(sorts>>1), "b", other)))
				count++
			}
		}
	}
	if len(bodies) < 1000 || count != 16*len(bodies) {
		t.Errorf("%d bodies, %d grammars", len(bodies), count)
	}
}

// P5.1 to P5.3: all pairs of smaller bodies.
func TestPairs(t *testing.T) {
	bodies := grown(2, []api.Kind{api.KAlts, api.KSeq, api.KOpt, api.KPlus}, []api.Node{ref("a"), ref("b"), tok("a"), tok("b"), lit("x")})
	bodies = append(bodies, seq(ref("a"), ref("b")), seq(ref("b"), ref("a")), alts(ref("a"), ref("b")), seq(tok("b"), tok("a")), alts(tok("a"), lit("")))
	for _, a := range bodies {
		for _, b := range bodies {
			for _, sort := range []api.Sort{api.SParser, api.SFragment} {
				reread(t, grammar(rule(sort, "a", a), rule(api.SParser, "b", b)))
				reread(t, grammar(rule(sort, "a", a), rule(api.SSkip, "b", b)))
			}
		}
	}
}

// whatever is a node of any kind, with any names, texts and Subs.
func whatever(r *rand.Rand, levels int) api.Node {
	n := api.Node{Kind: api.Kind(r.IntN(int(api.KSet) + 2))}
	if r.IntN(2) == 0 {
		n.Kind = []api.Kind{api.KSeq, api.KSeq, api.KAlts, api.KRef, api.KTok}[r.IntN(5)]
	}
	n.Name = []string{"a", "b", "c", "d", "e", ""}[r.IntN(6)]
	n.Text = []string{"", "x"}[r.IntN(2)]
	if levels > 0 {
		for range r.IntN(4) {
			n.Subs = append(n.Subs, whatever(r, levels-1))
		}
	}
	return n
}

// P5.1 to P5.3: whatever rules, some with one name, of whatever sorts.
func TestWhateverRules(t *testing.T) {
	r := rand.New(rand.NewPCG(5, 3))
	for range 20000 {
		var g api.Grammar
		for range r.IntN(6) {
			sort := api.Sort(r.IntN(6))
			if r.IntN(2) == 0 {
				sort = api.SParser
			}
			g.Rules = append(g.Rules, rule(sort, []string{"a", "b", "c", "d", ""}[r.IntN(5)], whatever(r, r.IntN(4))))
		}
		reread(t, g)
	}
}
