// Package made makes nodes, rules, grammars, tables and nets, whether such may be or not, and short texts, for tests alone.
package made

import (
	"slices"

	"harbinger/api"
	"harbinger/grams"
)

// Node of whatever kind; it has no list where it has no Subs.
func Node(k api.Kind, subs ...api.Node) api.Node { return api.Node{Kind: k, Subs: subs} }

// Alts of some.
func Alts(subs ...api.Node) api.Node { return Node(api.KAlts, subs...) }

// Seq of some.
func Seq(subs ...api.Node) api.Node { return Node(api.KSeq, subs...) }

// Opt should have one Sub, as have those below.
func Opt(subs ...api.Node) api.Node { return Node(api.KOpt, subs...) }

// Star of one.
func Star(subs ...api.Node) api.Node { return Node(api.KStar, subs...) }

// Plus of one.
func Plus(subs ...api.Node) api.Node { return Node(api.KPlus, subs...) }

// Pred of one.
func Pred(subs ...api.Node) api.Node { return Node(api.KPred, subs...) }

// Ref names a parser's rule.
func Ref(name string) api.Node { return api.Node{Kind: api.KRef, Name: name} }

// Tok names a token's rule, or a fragment.
func Tok(name string) api.Node { return api.Node{Kind: api.KTok, Name: name} }

// Lit is a text.
func Lit(text string) api.Node { return api.Node{Kind: api.KLit, Text: text} }

// Set is of pairs: where a range begins, and where it ends.
func Set(ends ...rune) api.Node {
	n := api.Node{Kind: api.KSet}
	for ; len(ends) > 1; ends = ends[2:] {
		n.Set = append(n.Set, api.Range{Low: ends[0], High: ends[1]})
	}
	return n
}

// Rule of a grammar.
func Rule(sort api.Sort, name string, body api.Node) api.Rule {
	return api.Rule{Name: name, Sort: sort, Body: body}
}

// Parser is a parser's rule.
func Parser(name string, body api.Node) api.Rule { return Rule(api.SParser, name, body) }

// Token is a token's rule.
func Token(name string, body api.Node) api.Rule { return Rule(api.SToken, name, body) }

// Grammar of some rules, with the usual options.
func Grammar(rules ...api.Rule) api.Grammar {
	return api.Grammar{Name: "G", Options: api.Options{Bound: 2, States: 256}, Rules: rules}
}

// Read is the grammar of the rules that a text tells.
func Read(text string) api.Grammar {
	g, fault := grams.Read("grammar G; " + text)
	if fault.E != api.OK {
		panic(text)
	}
	return g
}

// Chain is so many nodes of a kind, each within the one ahead of it, and a leaf.
func Chain(above int, k api.Kind, leaf api.Node) api.Node {
	for range above {
		leaf = Node(k, leaf)
	}
	return leaf
}

// Kinds from one to another, both with them.
func Kinds(first, last api.Kind) []api.Kind {
	var all []api.Kind
	for k := first; k <= last; k++ {
		all = append(all, k)
	}
	return all
}

// Rings are nodes of each kind that are within themselves, at once, further in, or more than once, with a leaf beside.
func Rings(leaf api.Node) []api.Node {
	var all []api.Node
	for _, k := range Kinds(api.KAlts, api.KSet+1) { // the last one is none
		one := Node(k, leaf)
		one.Subs[0] = one
		two := Node(k, Seq(leaf, leaf), leaf, leaf)
		two.Subs[0].Subs[1], two.Subs[1], two.Subs[2] = two, two, two
		three := Node(k, leaf, Seq(leaf, leaf))
		three.Subs[1].Subs[1] = three
		all = append(all, one, two, three, Star(leaf, one))
	}
	return all
}

// Wide is a node of a kind that has itself many times.
func Wide(k api.Kind) api.Node {
	n := Node(k, make([]api.Node, 50000)...)
	for i := range n.Subs {
		n.Subs[i] = n
	}
	return n
}

// Faults are texts of rules with each of which something is wrong: each code of checks is in one of them.
func Faults() []string {
	return []string{
		"A : 'a' ;",
		"fragment F : 'f' ;",
		"a : A ; A : 'a' ; A : 'b' ;",
		"a : ; a : ;",
		"a : b ; A : 'a' ;",
		"a : A ; A : B ;",
		"a : A ; A : B ; B : 'b' ;",
		"a : F ; fragment F : 'f' ;",
		"a : A ; A : S ; skip S : ' ' ;",
		"a : a ; A : 'a' ;",
		"a : A ; A : F ; fragment F : 'x' F ;",
		"a : ; fragment F : 'x' E ; fragment E : F ;",
		"a : A ; A : 'x' A ;",
		"a : A ; A : ('a'?)* 'b' ;",
		"a : (A?)+ ; A : 'a' ;",
		"a : A ; A : 'a'? ;",
		"a : A ; skip S : ; A : 'a' ;",
	}
}

// Grown are all nodes of some leaves and some kinds, by how many they are: the i-th list has those of i, up to the most.
func Grown(most int, kinds []api.Kind, leaves []api.Node) [][]api.Node {
	all := make([][]api.Node, most+1)
	all[1] = slices.Clone(leaves)
	for count := 2; count <= most; count++ {
		for _, k := range kinds {
			for _, subs := range rows(count-1, all) {
				all[count] = append(all[count], Node(k, subs...))
			}
		}
	}
	return all
}

// rows are all lists of nodes that are so many together.
func rows(count int, all [][]api.Node) [][]api.Node {
	if count == 0 {
		return [][]api.Node{nil}
	}
	var out [][]api.Node
	for first := 1; first <= count; first++ {
		for _, rest := range rows(count-first, all) {
			for _, n := range all[first] {
				out = append(out, append([]api.Node{n}, rest...))
			}
		}
	}
	return out
}

// Whatever is some rules of whatever sorts, some of them with one name, whose bodies have whatever nodes, of the usual kinds most often. What is drawn is a number below the one that is told.
func Whatever(draw func(below int) int, usual ...api.Kind) []api.Rule {
	var rules []api.Rule
	for range draw(6) {
		sort := api.Sort(draw(6)) // two of these are none
		if draw(2) == 0 {
			sort = api.SParser
		}
		rules = append(rules, Rule(sort, []string{"a", "b", "c", "d", ""}[draw(5)], whatever(draw, draw(4), usual)))
	}
	return rules
}

// whatever is a node of any kind, with any names, texts and Subs.
func whatever(draw func(below int) int, levels int, usual []api.Kind) api.Node {
	n := api.Node{Kind: api.Kind(draw(int(api.KSet) + 2))} // the last one is none
	if draw(2) == 0 {
		n.Kind = usual[draw(len(usual))]
	}
	n.Name = []string{"a", "b", "c", "d", "e", ""}[draw(6)]
	n.Text = []string{"", "x"}[draw(2)]
	if levels > 0 {
		for range draw(4) {
			n.Subs = append(n.Subs, whatever(draw, levels-1, usual))
		}
	}
	return n
}
