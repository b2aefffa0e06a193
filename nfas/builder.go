package nfas

import (
	"slices"

	"harbinger/api"
	"harbinger/nulls"
)

const most = 65536 // nodes that are gone through

// ends are the places with which texts of a node may begin, and end.
type ends struct {
	first, last places
}

func (e *ends) join(o *ends) {
	e.first.join(&o.first)
	e.last.join(&o.last)
}

// part is what a node is made to. One that is new is of a node that has no text at all.
type part struct {
	ends
	empty bool // whether it has a text of no places
}

// builder goes through the bodies of tokens' rules.
type builder struct {
	g      api.Grammar
	kind   int      // which token's rule is gone through
	nodes  int      // how many were gone through
	made   []Place  // all places, but for what is known only when all of them are there
	follow []places // of each of them
	over   bool     // whether there were more nodes, or places, than may be: then nothing more is made
}

// part makes a node. A name that leads to no rule stands only in a body that never ends, which checks lets be.
func (b *builder) part(n api.Node) *part {
	b.nodes++
	b.over = b.over || b.nodes > most
	if b.over {
		return &part{}
	}
	switch n.Kind {
	case api.KSeq:
		return b.row(n.Subs)
	case api.KAlts:
		return b.choice(n.Subs)
	case api.KOpt, api.KStar, api.KPlus:
		return b.often(n)
	case api.KTok:
		if rule := nulls.Find(b.g, n.Name); rule >= 0 {
			return b.part(b.g.Rules[rule].Body)
		}
	case api.KLit:
		return b.literal(n.Text)
	case api.KSet:
		return b.place(n.Set)
	}
	return &part{empty: true}
}

// row makes nodes one behind the other.
func (b *builder) row(l []api.Node) *part {
	p := &part{empty: true}
	for _, n := range l {
		q := b.part(n)
		if b.over {
			break // however many there are still
		}
		b.behind(p, q)
	}
	return p
}

// choice makes nodes of which one is there.
func (b *builder) choice(l []api.Node) *part {
	p := &part{}
	for _, n := range l {
		q := b.part(n)
		if b.over {
			break
		}
		p.join(&q.ends)
		p.empty = p.empty || q.empty
	}
	return p
}

// often makes a node whose Sub is there once, or not; or again and again.
func (b *builder) often(n api.Node) *part {
	p := &part{}
	if len(n.Subs) > 0 {
		p = b.part(n.Subs[0])
	}
	if n.Kind != api.KOpt {
		b.link(&p.last, &p.first)
	}
	if n.Kind != api.KPlus {
		p.empty = true
	}
	return p
}

// literal makes a place of each rune; a byte that belongs to none is ranged over as 65533.
func (b *builder) literal(s string) *part {
	p := &part{empty: true}
	for _, r := range s {
		q := b.place([]api.Range{{Low: r, High: r}})
		if b.over {
			break
		}
		b.behind(p, q)
	}
	return p
}

// place makes a new one.
func (b *builder) place(set []api.Range) *part {
	p, at := &part{}, len(b.made)
	if at == api.MaxStates {
		b.over = true
		return p
	}
	own := slices.Clip(append([]api.Range(nil), set...))
	b.made = append(b.made, Place{Set: own, Kind: b.kind})
	b.follow = append(b.follow, places{})
	p.first.add(at)
	p.last.add(at)
	return p
}

// behind puts a part behind another one, which is both of them then.
func (b *builder) behind(p, q *part) {
	b.link(&p.last, &q.first)
	if p.empty {
		p.first.join(&q.first)
	}
	if !q.empty {
		p.last = places{}
	}
	p.last.join(&q.last)
	p.empty = p.empty && q.empty
}

// link tells that behind each of some places each of others may come.
func (b *builder) link(from, to *places) {
	for p := range from.all() {
		b.follow[p].join(to)
	}
}

// told has all places, with what was known last.
func (b *builder) told(last *places) []Place {
	for i := range b.made {
		b.made[i].Follow = b.follow[i].list()
	}
	for i := range last.all() {
		b.made[i].Last = true
	}
	return slices.Clip(b.made)
}
