package atns_test

import (
	"math/rand/v2"
	"slices"
	"testing"

	"harbinger/api"
	"harbinger/atns"
	"harbinger/checks"
	"harbinger/grams"
	. "harbinger/made"
)

// A second reading of the chapter's words. How many states a piece has is told ahead, so that each part's numbers are known without making any; predicates are looked for level by level.

// counted is the node that counts of one that has one Sub.
func counted(n api.Node) api.Node {
	return append(slices.Clone(n.Subs), Seq())[0]
}

// size is how many states a node's piece has.
func size(n api.Node) (count int) {
	switch n.Kind {
	case api.KSeq:
		count = max(0, len(n.Subs)-1)
		for _, s := range n.Subs {
			count += size(s)
		}
	case api.KAlts:
		count = 2 + len(n.Subs)
		for _, s := range n.Subs {
			count += size(s)
		}
	case api.KOpt, api.KStar, api.KPlus:
		count = 4 + size(counted(n))
	}
	return count
}

// inside are the predicates that stand in a node, but for those within these, in order.
func inside(n api.Node) (l []api.Node) {
	switch n.Kind {
	case api.KPred:
		return []api.Node{n}
	case api.KSeq, api.KAlts:
		for _, s := range n.Subs {
			l = append(l, inside(s)...)
		}
	case api.KOpt, api.KStar, api.KPlus:
		return inside(counted(n))
	}
	return l
}

// drawing is a net of which all states are there from the beginning.
type drawing struct {
	g     api.Grammar
	net   atns.Net
	preds int // how many were met
}

// number is a name's place among the rules of some sorts.
func (d *drawing) number(name string, sorts ...api.Sort) (count int) {
	for _, r := range d.g.Rules {
		if r.Name == name {
			break
		}
		if slices.Contains(sorts, r.Sort) {
			count++
		}
	}
	return count
}

func (d *drawing) edge(from int, kind atns.Kind, what, to int) {
	s := &d.net.States[from]
	s.Edges = append(s.Edges, atns.Edge{Kind: kind, What: what, To: to})
}

// way is an alternative of a decision.
func (d *drawing) way(decision, to, end int) {
	d.edge(decision, atns.EdEmpty, 0, to)
	d.net.States[decision].Ends = append(d.net.States[decision].Ends, end)
}

// piece draws that of a node, whose own states have the numbers from that one on.
func (d *drawing) piece(n api.Node, own, from, to int) {
	switch n.Kind {
	case api.KTok:
		d.edge(from, atns.EdToken, d.number(n.Name, api.SToken, api.SSkip), to)
	case api.KRef:
		d.edge(from, atns.EdRule, d.number(n.Name, api.SParser), to)
	case api.KPred:
		d.edge(from, atns.EdPred, d.preds, to)
		d.preds++
	case api.KSeq:
		d.row(n.Subs, own, from, to)
	case api.KAlts:
		d.choice(n.Subs, own, from, to)
	case api.KOpt:
		d.choice([]api.Node{counted(n), Seq()}, own, from, to)
	case api.KStar:
		d.edge(from, atns.EdEmpty, 0, own)
		d.way(own, own+2, own)
		d.piece(counted(n), own+3, own+2, own)
		d.leave(own, own+1, own+3+size(counted(n)), to)
	case api.KPlus:
		d.edge(from, atns.EdEmpty, 0, own)
		d.piece(counted(n), own+3, own, own+1)
		d.way(own+1, own, own+1)
		d.leave(own+1, own+2, own+3+size(counted(n)), to)
	default:
		d.edge(from, atns.EdEmpty, 0, to)
	}
}

func (d *drawing) row(l []api.Node, own, from, to int) {
	if len(l) == 0 {
		d.edge(from, atns.EdEmpty, 0, to)
	}
	for i, n := range l {
		if i == len(l)-1 {
			d.piece(n, own, from, to)
			break
		}
		d.piece(n, own+1, from, own)
		from, own = own, own+1+size(n)
	}
}

func (d *drawing) choice(l []api.Node, own, from, to int) {
	d.edge(from, atns.EdEmpty, 0, own)
	next := own + 2
	for _, n := range l {
		d.way(own, next, own+1)
		d.piece(n, next+1, next, own+1)
		next += 1 + size(n)
	}
	d.edge(own+1, atns.EdEmpty, 0, to)
}

func (d *drawing) leave(decision, end, behind, to int) {
	d.way(decision, behind, end)
	d.edge(behind, atns.EdEmpty, 0, end)
	d.edge(end, atns.EdEmpty, 0, to)
}

// block makes the states of a rule, or of a predicate in it, and draws them.
func (d *drawing) block(rule int, n api.Node) (start int) {
	start = len(d.net.States)
	d.net.States = append(d.net.States, slices.Repeat([]atns.State{{Rule: rule}}, 2+size(n))...)
	d.piece(n, start+2, start, start+1)
	return start
}

// drawn is the net of a grammar.
func drawn(g api.Grammar) atns.Net {
	type pred struct {
		rule int
		node api.Node
	}
	var (
		d    = drawing{g: g}
		open []pred
	)
	find := func(rule int, n api.Node) (l []pred) {
		for _, n := range inside(n) {
			l = append(l, pred{rule, n})
		}
		return l
	}
	for _, r := range g.Rules {
		if r.Sort == api.SParser {
			rule := len(d.net.Starts)
			open = append(open, find(rule, r.Body)...)
			start := d.block(rule, r.Body)
			d.net.Starts, d.net.Stops = append(d.net.Starts, start), append(d.net.Stops, start+1)
		}
	}
	for len(open) > 0 {
		var next []pred
		for _, p := range open {
			next = append(next, find(p.rule, counted(p.node))...)
			d.net.Preds = append(d.net.Preds, d.block(p.rule, counted(p.node)))
		}
		open = next
	}
	return d.net
}

// reread holds the net of a grammar against the second reading, and tells whether there is one.
func reread(t *testing.T, g api.Grammar) bool {
	t.Helper()
	if !checks.Fine(g) {
		refused(t, g, api.ErrArg)
		return false
	}
	want := drawn(g)
	if len(want.States) > api.MaxStates {
		refused(t, g, api.ErrLimit)
		return false
	}
	n := built(t, g)
	if NetLine(n) != NetLine(want) {
		t.Fatalf("Build(%v):\n%s, not\n%s", g.Rules, NetLine(n), NetLine(want))
	}
	if grams.Sound(g) {
		whither(t, g, n)
	}
	return true
}

// whither holds a net of a sound grammar against what follows: where edges lead.
func whither(t *testing.T, g api.Grammar, n atns.Net) {
	t.Helper()
	if !atns.May(n) {
		t.Fatalf("%s: %s may not be", grams.Print(g), NetLine(n))
	}
	reached := func(from int) []int {
		l := []int{from}
		for i := 0; i < len(l); i++ {
			for _, e := range n.States[l[i]].Edges {
				if !slices.Contains(l, e.To) {
					l = append(l, e.To)
				}
			}
		}
		return l
	}
	met := slices.Clone(n.Starts)
	for rule, start := range n.Starts {
		l := reached(start)
		if !slices.Contains(l, n.Stops[rule]) {
			t.Fatalf("%s: %s: from %d on %v are reached", grams.Print(g), NetLine(n), start, l)
		}
		met = append(met, l...)
	}
	for _, start := range n.Preds {
		l := reached(start)
		if !slices.Contains(l, start+1) {
			t.Fatalf("%s: %s: from %d on %v are reached", grams.Print(g), NetLine(n), start, l)
		}
		met = append(met, l...)
	}
	led := slices.Concat(n.Starts, n.Stops, n.Preds) // a predicate begins where its edge tells
	for _, s := range n.States {
		for _, e := range s.Edges {
			led = append(led, e.To)
		}
	}
	for i := range n.States {
		if !slices.Contains(led, i) && !slices.Contains(n.Preds, i-1) || !slices.Contains(met, i) {
			t.Fatalf("%s: %s: nothing leads to %d", grams.Print(g), NetLine(n), i)
		}
	}
}

// P12.1: all small bodies, in a grammar of two rules.
func TestSmallBodies(t *testing.T) {
	leaves := []api.Node{Tok("A"), Ref("b"), Seq(), Star(), Pred(), Lit("x")}
	fine, count := 0, 0
	for _, body := range slices.Concat(Grown(4, Kinds(api.KAlts, api.KPred), leaves)...) {
		count++
		if reread(t, whole(Parser("b", Tok("C")), Parser("a", body))) {
			fine++
		}
	}
	if fine < 4000 || count < 10000 {
		t.Errorf("%d of %d are fine", fine, count)
	}
}

// P12.1, P12.2, P12.3: whatever parsers.
func TestWhateverParsers(t *testing.T) {
	r := rand.New(rand.NewPCG(12, 1))
	fine, preds, big := 0, 0, 0
	for range 20000 {
		g := Parsers(r.IntN)
		if !grams.Sound(g) {
			t.Fatal(grams.Print(g), "is not sound")
		}
		if !reread(t, g) {
			continue
		}
		fine++
		n := built(t, g)
		preds += min(1, len(n.Preds))
		big += len(n.States) / 40
	}
	if fine < 5000 || preds < 2000 || big < 2000 {
		t.Errorf("%d are fine, %d have predicates, %d", fine, preds, big)
	}
	for range 20000 {
		reread(t, api.Grammar{Rules: Whatever(r.IntN, api.KSeq, api.KOpt, api.KTok, api.KRef, api.KPred, api.KPlus)})
	}
}
