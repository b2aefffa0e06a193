package made

import (
	"math"
	"slices"
	"strconv"
	"strings"

	"harbinger/api"
	"harbinger/atns"
)

// ways are the kinds of edges as text; an EdEmpty of the number that it should have stands without.
const ways = "etrp"

// NetLine tells a net but for its Decisions: of each rule where it begins / where it is over; of each predicate p and where it begins; then state by state: @ and its Rule, where the state ahead is another one's; its edges, each its kind, a number, > and where it leads; ! and each of its Ends; a . where there is nothing. One is "0/1 p3: t5>2; .; p0>1; >4; .".
func NetLine(n atns.Net) string {
	var parts []string
	for i, start := range n.Starts {
		parts = append(parts, strconv.Itoa(start)+"/"+strconv.Itoa(n.Stops[i]))
	}
	for _, p := range n.Preds {
		parts = append(parts, "p"+strconv.Itoa(p))
	}
	s, rule := strings.Join(parts, " ")+":", 0
	for i, state := range n.States {
		if i > 0 {
			s += ";"
		}
		if state.Rule != rule {
			s += " @" + strconv.Itoa(state.Rule)
		}
		rule = state.Rule
		for _, e := range state.Edges {
			s += " " + way(e)
		}
		for _, end := range state.Ends {
			s += " !" + strconv.Itoa(end)
		}
		if len(state.Edges)+len(state.Ends) == 0 {
			s += " ."
		}
	}
	return s
}

// way is an edge as text.
func way(e atns.Edge) string {
	to := ">" + strconv.Itoa(e.To)
	switch {
	case e == atns.Edge{To: e.To}:
		return to
	case int(e.Kind) < len(ways):
		return ways[e.Kind:e.Kind+1] + strconv.Itoa(e.What) + to
	}
	return "kind " + strconv.Itoa(int(e.Kind)) + to
}

// Net is what a line tells; its Decisions are the states with Ends.
func Net(line string) (n atns.Net) {
	head, body, _ := strings.Cut(line, ":")
	for _, part := range strings.Fields(head) {
		if start, stop, ok := strings.Cut(part, "/"); ok {
			n.Starts, n.Stops = append(n.Starts, number(start)), append(n.Stops, number(stop))
		} else {
			n.Preds = append(n.Preds, number(part[1:]))
		}
	}
	if body == "" {
		return n
	}
	rule := 0
	for i, text := range strings.Split(body, ";") {
		s := stated(text, rule)
		rule = s.Rule
		if n.States = append(n.States, s); len(s.Ends) > 0 {
			n.Decisions = append(n.Decisions, i)
		}
	}
	return n
}

// stated is a state, behind one of that rule.
func stated(text string, rule int) atns.State {
	s := atns.State{Rule: rule}
	for _, part := range strings.Fields(text) {
		what, to, ok := strings.Cut(part, ">")
		switch {
		case part == ".":
		case part[0] == '@':
			s.Rule = number(part[1:])
		case part[0] == '!':
			s.Ends = append(s.Ends, number(part[1:]))
		case ok && what == "":
			s.Edges = append(s.Edges, atns.Edge{To: number(to)})
		default:
			s.Edges = append(s.Edges, atns.Edge{Kind: atns.Kind(strings.IndexByte(ways, what[0])), What: number(what[1:]), To: number(to)})
		}
	}
	return s
}

// CopiedNet is a net in other memory.
func CopiedNet(n atns.Net) atns.Net {
	out := atns.Net{States: slices.Clone(n.States), Starts: slices.Clone(n.Starts), Stops: slices.Clone(n.Stops), Preds: slices.Clone(n.Preds), Decisions: slices.Clone(n.Decisions)}
	for i, s := range n.States {
		out.States[i].Edges, out.States[i].Ends = slices.Clone(s.Edges), slices.Clone(s.Ends)
	}
	return out
}

// Parsers are a grammar that is sound, of rules a, b and c and tokens A, B, C, with which something may be wrong. What is drawn is a number below the one that is told.
func Parsers(draw func(below int) int) api.Grammar {
	body := func(rule int) api.Node {
		if draw(8) == 0 {
			return Pred(matched(draw, rule, 2))
		}
		return matched(draw, rule, 1+draw(3))
	}
	return Grammar(
		Parser("a", body(0)),
		Rule(api.SSkip, "A", Lit("a")),
		Token("B", Plus(Tok("F"))),
		Parser("b", body(1)),
		Rule(api.SFragment, "F", Lit("f")),
		Token("C", Lit("c")),
		Parser("c", body(2)),
	)
}

// matched is a node in that rule, as one may write it: rules that it names at once stand behind, or else a token ahead, most often.
func matched(draw func(below int) int, rule, levels int) api.Node {
	token := func() api.Node { return Tok([]string{"B", "C"}[draw(2)]) }
	part := func() api.Node { return matched(draw, rule, levels-1) }
	if levels == 0 {
		switch draw(6) {
		case 0:
			return Ref(string(rune('a' + min(2, rule+1))))
		case 1:
			return Seq(token(), Ref(string(rune('a'+draw(3)))))
		case 2:
			return Seq()
		}
		return token()
	}
	switch draw(8) {
	case 0:
		return Alts(part(), part())
	case 1:
		return Alts(part(), Seq(Pred(part()), token(), part()), part())
	case 2, 3:
		return Seq(part(), part())
	case 4:
		return Opt(part())
	case 5:
		return Star(Seq(token(), part()))
	case 6:
		return Plus(part())
	}
	return Seq(Pred(part()), part())
}

// DrawnNet is a net of whatever few states, that may be. What is drawn is a number below the one that is told.
func DrawnNet(draw func(below int) int) (n atns.Net) {
	states, rules, preds := 2+draw(6), 1+draw(3), draw(3)
	for range rules {
		n.Starts, n.Stops = append(n.Starts, draw(states)), append(n.Stops, draw(states))
	}
	for range preds {
		n.Preds = append(n.Preds, draw(states-1))
	}
	for i := range states {
		s := atns.State{Rule: draw(rules)}
		if draw(3) == 0 {
			for range 2 + draw(2) {
				s.Edges, s.Ends = append(s.Edges, atns.Edge{To: draw(states)}), append(s.Ends, draw(states))
			}
			n.Decisions = append(n.Decisions, i)
		}
		for range draw(3) * min(1, draw(8)) {
			if len(s.Ends) == 0 {
				s.Edges = append(s.Edges, drawnEdge(draw, states, rules, preds))
			}
		}
		n.States = append(n.States, s)
	}
	return n
}

// drawnEdge is one of whatever kind, of tokens 0 to 2.
func drawnEdge(draw func(below int) int, states, rules, preds int) atns.Edge {
	e := atns.Edge{Kind: atns.Kind(draw(4)), To: draw(states)}
	switch e.Kind {
	case atns.EdToken:
		e.What = draw(3)
	case atns.EdRule:
		e.What = draw(rules)
	case atns.EdPred:
		if preds == 0 {
			return atns.Edge{To: e.To}
		}
		e.What = draw(preds)
	}
	return e
}

// SpoilNet puts another number somewhere into a net, or takes something away, or adds it.
func SpoilNet(draw func(below int) int, n *atns.Net) {
	some := []int{-1, 0, 1, 2, 4, len(n.States) - 1, len(n.States), len(n.Starts), len(n.Preds), math.MaxInt, math.MinInt}[draw(11)]
	lists := []*[]int{&n.Starts, &n.Stops, &n.Preds, &n.Decisions}
	var edges []*atns.Edge
	for i := range n.States {
		lists = append(lists, &n.States[i].Ends)
		for j := range n.States[i].Edges {
			edges = append(edges, &n.States[i].Edges[j])
		}
	}
	l := lists[draw(len(lists))]
	if draw(2) == 0 {
		l = lists[draw(4)]
	}
	at := draw(len(n.States))
	switch what := draw(8); {
	case what == 0:
		*l = append(*l, some)
	case what == 1:
		*l = (*l)[:len(*l)/2]
	case what == 2:
		n.States[at].Rule = some
	case what == 3:
		n.States[at].Edges = append(n.States[at].Edges, atns.Edge{Kind: atns.Kind(draw(6)), To: some})
	case what < 6 && len(edges) > 0:
		e := edges[draw(len(edges))]
		*[]*int{&e.What, &e.To}[draw(2)] = some
		if draw(3) == 0 {
			e.Kind = atns.Kind(draw(6))
		}
	case len(*l) > 0:
		(*l)[draw(len(*l))] = some
	}
}
