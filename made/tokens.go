package made

import (
	"slices"
	"strconv"
	"strings"

	"harbinger/api"
)

// Tokens are a grammar of whatever tokens, of runes a and b, with which something may be wrong. What is drawn is a number below the one that is told.
func Tokens(draw func(below int) int) api.Grammar {
	return Grammar(
		Rule(api.SFragment, "E", somehow(draw, 2, "F")),
		Token("A", somehow(draw, 3, "E", "F")),
		Parser("s", Tok("A")),
		Rule(api.SSkip, "B", somehow(draw, 2, "F")),
		Rule(api.SFragment, "F", somehow(draw, 2)),
		Token("C", somehow(draw, 3, "F", "E")),
	)
}

// somehow is a body as one may write it, or not.
func somehow(draw func(below int) int, levels int, names ...string) api.Node {
	if levels == 0 || draw(5) == 0 {
		switch draw(9) {
		case 0, 1:
			return Lit([]string{"a", "b", "ab", "ba", "aab", ""}[draw(6)])
		case 2:
			return Set('a', 'b')
		case 3:
			return []api.Node{Seq(), Set(), Alts(), Plus(), Star(), Pred(Lit("a"))}[draw(6)]
		case 4, 5:
			if len(names) > 0 {
				return Tok(names[draw(len(names))])
			}
		}
		return Set('a'+rune(draw(2)), 'a'+rune(draw(2)))
	}
	n := Node([]api.Kind{api.KSeq, api.KSeq, api.KAlts, api.KOpt, api.KStar, api.KPlus}[draw(6)])
	few := 1
	if n.Kind == api.KSeq || n.Kind == api.KAlts {
		few = 1 + draw(3)
	}
	for range few {
		n.Subs = append(n.Subs, somehow(draw, levels-1, names...))
	}
	return n
}

// Short are all texts of runes a and b, from one rune on up to so many.
func Short(most int) (all []string) {
	for size := 1; size <= most; size++ {
		for x := range 1 << size {
			b := make([]byte, size)
			for i := range b {
				b[i] = 'a' + byte(x>>i&1)
			}
			all = append(all, string(b))
		}
	}
	return all
}

// Matches tells by a token's rules themselves whether a text of few runes, each a byte, is one of a node.
func Matches(g api.Grammar, n api.Node, s string) bool {
	return till(g, n, s, 1)>>len(s)&1 == 1
}

// till are the places in a text behind which a node may be over that begins at one of those; as bits.
func till(g api.Grammar, n api.Node, s string, from uint) (to uint) {
	switch n.Kind {
	case api.KSeq:
		for _, sub := range n.Subs {
			from = till(g, sub, s, from)
		}
		return from
	case api.KAlts:
		for _, sub := range n.Subs {
			to |= till(g, sub, s, from)
		}
		return to
	case api.KOpt:
		return from | till(g, n.Subs[0], s, from)
	case api.KStar, api.KPlus:
		if n.Kind == api.KStar {
			to = from
		}
		for range len(s) + 1 {
			if len(n.Subs) > 0 {
				from = till(g, n.Subs[0], s, from)
				to |= from
			}
		}
		return to
	case api.KTok:
		at := slices.IndexFunc(g.Rules, func(r api.Rule) bool { return r.Name == n.Name })
		return till(g, g.Rules[at].Body, s, from)
	case api.KPred:
		return from
	}
	return leaf(n, s, from)
}

func leaf(n api.Node, s string, from uint) (to uint) {
	for i := range len(s) + 1 {
		switch {
		case from>>i&1 == 0:
		case n.Kind == api.KLit && strings.HasPrefix(s[i:], n.Text):
			to |= 1 << (i + len(n.Text))
		case n.Kind == api.KSet && i < len(s) && slices.ContainsFunc(n.Set, func(x api.Range) bool { return x.Low <= rune(s[i]) && rune(s[i]) <= x.High }):
			to |= 1 << (i + 1)
		}
	}
	return to
}

// Numbers as text, a comma between each two.
func Numbers(l []int) string {
	var parts []string
	for _, n := range l {
		parts = append(parts, strconv.Itoa(n))
	}
	return strings.Join(parts, ",")
}
