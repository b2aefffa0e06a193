package atns

import (
	"slices"

	"harbinger/api"
	"harbinger/bodies"
)

// builder makes a net, piece by piece.
type builder struct {
	rules, tokens map[string]int // of each name its number
	net           Net
	found         int         // how many predicates were found
	waiting       []predicate // those of them whose pieces are not made yet, in order
	over          bool        // whether there would be more states than may be: then nothing more is made
}

// predicate whose piece is to be made.
type predicate struct {
	sub   api.Node
	fresh func() int // makes a new state of the rule in which it stands
}

// owner is the rule that is made.
type owner struct {
	b      *builder
	number int
}

// state makes a new one.
func (o owner) state() int {
	at := len(o.b.net.States)
	if at == api.MaxStates {
		o.b.over = true
		return 0 // one that there is; what becomes of it is not told
	}
	o.b.net.States = append(o.b.net.States, State{Rule: o.number})
	return at
}

// numbers are places among rules by their names.
func numbers(g api.Grammar, rules []int) map[string]int {
	m := make(map[string]int, len(rules))
	for number, rule := range rules {
		m[g.Rules[rule].Name] = number
	}
	return m
}

// rule makes a rule's states.
func (b *builder) rule(number int, body api.Node) {
	start, stop := b.whole(body, owner{b, number}.state)
	b.net.Starts = append(b.net.Starts, start)
	b.net.Stops = append(b.net.Stops, stop)
}

// predicates makes the pieces of those that wait, and of those that are found on the way.
func (b *builder) predicates() {
	for len(b.waiting) > 0 {
		count := len(b.waiting)
		now := b.waiting
		b.waiting = b.waiting[count:count:count] // without room, so that what is found on the way has memory of its own, and what is made can go
		for _, p := range now {
			start, _ := b.whole(p.sub, p.fresh)
			b.net.Preds = append(b.net.Preds, start)
		}
	}
}

// whole makes where something begins, where it is over, and the piece between.
func (b *builder) whole(n api.Node, fresh func() int) (start, stop int) {
	start, stop = fresh(), fresh()
	b.piece(n, start, stop, fresh)
	return start, stop
}

// piece makes that of a node, from a state to another one.
func (b *builder) piece(n api.Node, from, to int, fresh func() int) {
	n = b.core(n)
	if b.over {
		return
	}
	switch n.Kind {
	case api.KSeq:
		b.row(n.Subs, from, to, fresh)
	case api.KAlts:
		b.choice(n.Subs, from, to, fresh)
	case api.KOpt:
		b.choice([]api.Node{sub(n), nothing()}, from, to, fresh)
	case api.KStar:
		b.star(sub(n), from, to, fresh)
	case api.KPlus:
		b.plus(sub(n), from, to, fresh)
	default:
		b.step(n, from, to, fresh)
	}
}

// core goes down through KSeq of one Sub, which make no states; where that never ends, there is more than may be.
func (b *builder) core(n api.Node) api.Node {
	for level := 1; !b.over && n.Kind == api.KSeq && len(n.Subs) == 1; level++ {
		n, b.over = n.Subs[0], level > bodies.Levels
	}
	return n
}

// sub is the one that counts.
func sub(n api.Node) api.Node {
	if len(n.Subs) == 0 {
		return nothing()
	}
	return n.Subs[0]
}

func nothing() api.Node { return api.Node{Kind: api.KSeq} }

// row makes nodes one behind the other.
func (b *builder) row(l []api.Node, from, to int, fresh func() int) {
	if len(l) == 0 {
		b.empty(from, to)
		return
	}
	last := len(l) - 1
	for _, n := range l[:last] {
		next := fresh()
		if b.over {
			return // however many there are still
		}
		b.piece(n, from, next, fresh)
		from = next
	}
	b.piece(l[last], from, to, fresh)
}

// choice makes nodes of which one is there.
func (b *builder) choice(l []api.Node, from, to int, fresh func() int) {
	decision, end := fresh(), fresh()
	b.empty(from, decision)
	for _, n := range l {
		first := fresh()
		if b.over {
			return
		}
		b.alternative(decision, first, end)
		b.piece(n, first, end, fresh)
	}
	b.empty(end, to)
}

// star makes a node that is there again and again, or not.
func (b *builder) star(n api.Node, from, to int, fresh func() int) {
	decision, end := fresh(), fresh()
	b.empty(from, decision)
	first := fresh()
	b.alternative(decision, first, decision)
	b.piece(n, first, decision, fresh)
	b.leave(decision, end, to, fresh)
}

// plus makes a node that is there once, and again and again.
func (b *builder) plus(n api.Node, from, to int, fresh func() int) {
	first, decision, end := fresh(), fresh(), fresh()
	b.empty(from, first)
	b.piece(n, first, decision, fresh)
	b.alternative(decision, first, decision)
	b.leave(decision, end, to, fresh)
}

// leave makes the alternative of a loop that is not gone through again.
func (b *builder) leave(decision, end, to int, fresh func() int) {
	behind := fresh()
	b.alternative(decision, behind, end)
	b.empty(behind, end)
	b.empty(end, to)
}

// step makes a node that has no states of its own. A name that leads to no rule stands only in a body that never ends, which checks lets be.
func (b *builder) step(n api.Node, from, to int, fresh func() int) {
	e := Edge{To: to}
	switch n.Kind {
	case api.KTok:
		if token, ok := b.tokens[n.Name]; ok {
			e.Kind, e.What = EdToken, token
		}
	case api.KRef:
		if rule, ok := b.rules[n.Name]; ok {
			e.Kind, e.What = EdRule, rule
		}
	case api.KPred:
		e.Kind, e.What = EdPred, b.found
		b.found++
		b.waiting = append(b.waiting, predicate{sub(n), fresh})
	}
	b.edge(from, e)
}

// alternative is an edge of a decision.
func (b *builder) alternative(decision, first, end int) {
	b.empty(decision, first)
	s := &b.net.States[decision]
	s.Ends = append(s.Ends, end)
}

func (b *builder) empty(from, to int) { b.edge(from, Edge{To: to}) }

func (b *builder) edge(from int, e Edge) {
	s := &b.net.States[from]
	s.Edges = append(s.Edges, e)
}

// told is the net, without any room behind its lists.
func (b *builder) told() Net {
	n := b.net
	for i, s := range n.States {
		n.States[i].Edges, n.States[i].Ends = slices.Clip(s.Edges), slices.Clip(s.Ends)
	}
	n.States, n.Decisions = slices.Clip(n.States), decisions(n.States)
	n.Starts, n.Stops, n.Preds = slices.Clip(n.Starts), slices.Clip(n.Stops), slices.Clip(n.Preds)
	return n
}
