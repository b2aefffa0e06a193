package checks_test

import (
	"math"
	"reflect"
	"slices"
	"strconv"
	"strings"
	"testing"
	"unsafe"

	"harbinger/api"
	"harbinger/checks"
	"harbinger/grams"
	. "harbinger/made"
	"harbinger/nodes"
)

// strange is a sort that is none of the four: no parser's.
const strange = api.SSkip + 1

// line tells problems as a text: of each its code, its rule's place, and its name.
func line(l []checks.Problem) string {
	codes := [...]string{"", "twice", "none", "sort", "left", "round", "loop", "empty", "start"}
	var parts []string
	for _, p := range l {
		if p.Code < 1 || int(p.Code) >= len(codes) {
			return "a code that is none"
		}
		parts = append(parts, strings.TrimSpace(codes[p.Code]+" "+strconv.Itoa(p.Rule)+" "+p.Name))
	}
	return strings.Join(parts, ", ")
}

// told holds what is told of a grammar against what is awaited.
func told(t *testing.T, g api.Grammar, want string) {
	t.Helper()
	if s := line(checks.Check(g)); s != want {
		t.Errorf("Check(%.1000s):\n%.1000s, not\n%.1000s", grams.Print(g), s, want)
	}
	if checks.Fine(g) != (want == "") {
		t.Errorf("Fine(%.1000s): %t", grams.Print(g), want != "")
	}
}

// P6.1: the chapter's examples, and the numbers of the codes.
func TestExamples(t *testing.T) {
	told(t, Read("a : b? a ;"), "none 0 b, left 0 a")
	told(t, Read("A : 'x'* ;"), "empty 0 A, start -1")
	all := []checks.Code{checks.PrTwice, checks.PrNone, checks.PrSort, checks.PrLeft, checks.PrRound, checks.PrLoop, checks.PrEmpty, checks.PrStart}
	for i, c := range all {
		if int(c) != i+1 {
			t.Error(i, c)
		}
	}
}

// P6.1: grammars with which nothing is wrong.
func TestNothingWrong(t *testing.T) {
	for _, s := range []string{
		"a : ;",
		"a : () | (A)? ; A : 'a' ;",
		"A : 'a' ; a : A ;",
		"a : A a | ; A : 'a' ;",
		"a : A b ; b : B c? ; c : C a* ; A : 'a' ; B : 'b' ; C : 'c' ;",
		"a : A (A a?)* ; A : 'a'* 'b' ; fragment F : 'x'* ; fragment E : F | F? F ; skip S : E ' '+ ;",
		"a : b b? | (b) => b+ ; b : A+ | A ((A) => ())? ; A : F+ ; fragment F : 'f' ; skip S : ' ' ;",
		`list : OPEN (item (COMMA item)*)? CLOSE ;
item : (NAME EQUALS) => NAME EQUALS item | NAME | list ;
NAME : Letter (Letter | '0'..'9')* ;
EQUALS : '=' ;
COMMA : ',' ;
OPEN : '(' ;
CLOSE : ')' ;
fragment Letter : [a-zA-Z] ;
skip GAP : ' '+ | '\n' ;`,
	} {
		told(t, Read(s), "")
	}
}

// P6.1: what each code tells, of texts as one writes them.
func TestTexts(t *testing.T) {
	for _, k := range []struct{ text, want string }{
		{"a : ; b : ; a : ; a : ;", "twice 2 a, twice 3 a"},
		{"A : 'a' ; a : A ; fragment A : 'b' ; skip A : 'c' ;", "twice 2 A, twice 3 A"},
		{"a : A ; fragment A : 'b' ; A : 'a' ;", "sort 0 A, twice 2 A"}, // the first one of a name is the one that counts

		{"a : b c b (b | D)* ; b : D ;", "none 0 c, none 0 D, none 1 D"},
		{"a : (x (y)?) => (y z?)+ | (w) ;", "none 0 x, none 0 y, none 0 y, none 0 z, none 0 w"},
		{"a : ; A : B 'x' (C | B+)+ ;", "none 1 B, none 1 C, none 1 B"},

		{"a : A S F ; A : 'a' ; fragment F : 'f' ; skip S : 's' ;", "sort 0 S, sort 0 F"},
		{"a : F x S y F ; fragment F : 'f' ; skip S : 's' ;", "none 0 x, none 0 y, sort 0 F, sort 0 S, sort 0 F"},
		{"a : ; A : B S F G ; B : 'b' ; skip S : F B ; fragment F : 'f' B S ; fragment G : 'g' ;", "sort 1 B, sort 1 S, sort 3 B, round 3 S, sort 4 B, sort 4 S, round 4 F"},

		{"a : a ;", "left 0 a"},
		{"a : b a ; b : A? ; A : 'a' ;", "left 0 a"},
		{"a : (a) => A ; A : 'a' ;", "left 0 a"},
		{"a : A | a+ ; A : 'a' ;", "left 0 a"},
		{"a : b ; b : c A ; c : a | ; A : 'a' ;", "left 0 a, left 1 b, left 2 c"},
		{"a : b ; b : b A ; c : b ; A : 'a' ;", "left 1 b"},

		{"a : ; A : 'a' A ;", "sort 1 A, round 1 A"},
		{"a : ; A : 'a' F ; fragment F : ('f' F)? ;", "round 2 F"}, // A goes on to what goes round, but is not in it
		{"a : ; A : F ; fragment F : 'x' E ; fragment E : 'e' | F ;", "round 2 F, round 3 E"},
		{"a : ; fragment F : 'x' E ; fragment E : 'e' | D ; fragment D : F F ; fragment H : D ;", "round 1 F, round 2 E, round 3 D"},
		{"a : ; skip S : 's' A ; A : 'a' | S ;", "sort 1 A, round 1 S, sort 2 S, round 2 A"},

		{"a : (A?)* ; A : 'a' ;", "loop 0 a"},
		{"a : (A?)+ | ()* ((A*)*)+ ; A : 'a' ;", "loop 0 a, loop 0 a, loop 0 a, loop 0 a"},
		{"a : ((A*) A)* b* b+ ((A) =>)* ; b : A* ; A : 'a' ;", "loop 0 a, loop 0 a, loop 0 a"},
		{"a : (A | b)* (A b)+ (b b)* ; b : A | ; A : 'a' ;", "loop 0 a, loop 0 a"},
		{"a : ; A : ('a'? F)* 'b' ; fragment F : 'f'* ;", "loop 1 A"},
		{"a : ; fragment F : ('f'* | 'g')+ ;", "loop 1 F"},
		{"a : ; skip S : ' ' ('s'*)* ;", "loop 1 S"},

		{"a : ; A : ; skip B : 'b'? ; fragment C : ; D : 'd' | () ; E : C C ; F : C 'f' ;", "empty 1 A, empty 2 B, empty 4 D, empty 5 E"},

		{"A : 'a' ; skip B : 'b' ; fragment C : 'c' ;", "start -1"},

		{"a : (x a S (y*)? B?)* ; a : (a (A?)*)+ ; skip S : S (S? Z)+ (Z? S*)* ; A : (S A)* (A*)* ; A : ; fragment S : T ;", // many at once
			"none 0 x, none 0 y, none 0 B, sort 0 S, " +
				"twice 1 a, loop 1 a, loop 1 a, " +
				"none 2 Z, none 2 Z, sort 2 S, sort 2 S, sort 2 S, round 2 S, loop 2 S, " +
				"sort 3 S, sort 3 A, sort 3 A, round 3 A, loop 3 A, loop 3 A, empty 3 A, " +
				"twice 4 A, empty 4 A, " +
				"twice 5 S, none 5 T"},
	} {
		told(t, Read(k.text), k.want)
	}
	told(t, api.Grammar{}, "start -1")
	told(t, Grammar(), "start -1")
	told(t, api.Grammar{Rules: []api.Rule{}}, "start -1")
}

// P6.1: what a rule of each sort may name, as KRef and as KTok.
func TestSorts(t *testing.T) {
	for in := api.SParser; in <= strange; in++ {
		for to := api.SParser; to <= strange; to++ {
			for _, n := range []api.Node{Ref("n"), Tok("n")} {
				fits := to == api.SFragment
				switch {
				case n.Kind == api.KRef:
					fits = in == api.SParser && to == api.SParser
				case in == api.SParser:
					fits = to == api.SToken
				}
				want := "sort 1 n"
				if fits {
					want = ""
				}
				told(t, Grammar(Parser("s", Seq()), Rule(in, "i", Seq(n, Lit("x"))), Rule(to, "n", Lit("x"))), want)
			}
		}
	}
}

// P6.1: nodes that no text has.
func TestOddNodes(t *testing.T) {
	a := Parser("a", Tok("A"))
	last := []api.Rule{Parser("e", Seq()), Token("A", Lit("x")), Rule(api.SFragment, "E", Lit(""))}
	for _, k := range []struct {
		sort api.Sort
		n    api.Node
		want string
	}{
		{api.SParser, Star(), ""}, // a loop without a Sub is none
		{api.SParser, Plus(), ""},
		{api.SParser, Star(Tok("A"), Seq()), ""}, // of several the first one counts
		{api.SParser, Plus(Seq(), Tok("A")), "loop 1 b"},
		{api.SParser, Plus(Tok("A"), Star(Ref("e"))), "loop 1 b"}, // but what is in the others stands there all the same
		{api.SParser, Star(Plus(Tok("A"), Seq())), "loop 1 b"},    // nulls goes by all of several
		{api.SParser, Star(Plus()), ""},
		{api.SParser, Star(Star()), "loop 1 b"},
		{api.SParser, Star(Opt(), Tok("A")), "loop 1 b"},
		{api.SParser, Star(Alts()), ""},
		{api.SParser, Star(Lit("")), "loop 1 b"},
		{api.SParser, Plus(Set('b', 'a')), ""},
		{api.SParser, Star(Node(api.KSet+1, Seq())), ""},
		{api.SParser, Node(api.KSet+1, Star(Seq()), Ref("c"), Tok("e")), "none 1 c, sort 1 e, loop 1 b"}, // of whatever kind, it has what is in it
		{api.SParser, Node(math.MaxUint8, Plus(Seq())), "loop 1 b"},
		{api.SParser, Node(api.KLit, Plus(Seq()), Ref("c")), "none 1 c, loop 1 b"},
		{api.SParser, api.Node{Kind: api.KRef, Name: "c", Subs: []api.Node{Ref("d"), Seq(Tok("e"), Tok("C"))}}, "none 1 c, none 1 d, none 1 C, sort 1 e"},
		{api.SParser, api.Node{Kind: api.KTok, Name: "A", Subs: []api.Node{Star(Opt(Ref("f")))}}, "none 1 f, loop 1 b"},
		{api.SParser, api.Node{Kind: api.KSeq, Name: "c", Text: "c"}, ""}, // only KRef and KTok name
		{api.SParser, Ref(""), "none 1"},
		{api.SParser, Ref("b\xff"), "none 1 b\xff"},
		{api.SParser, Star(Tok("E")), "sort 1 E"}, // in a parser's rule it may not be empty
		{api.SParser, Seq(Tok("b"), Ref("b")), "sort 1 b"},
		{api.SParser, Tok("b"), "sort 1 b"},
		{api.SToken, Tok("E"), "empty 1 b"},
		{api.SSkip, Tok("E"), "empty 1 b"},
		{api.SFragment, Tok("E"), ""},
		{strange, Tok("E"), ""},
		{strange, Tok("b"), "sort 1 b, round 1 b"},
		{api.SToken, Star(Tok("E")), "loop 1 b, empty 1 b"},
		{api.SFragment, Star(Tok("E")), "loop 1 b"},
		{strange, Plus(Tok("E")), "loop 1 b"},
		{api.SToken, Seq(Ref("b"), Lit("x")), "sort 1 b, round 1 b"}, // it names itself, by whichever kind
		{api.SFragment, Ref("b"), "sort 1 b, round 1 b"},
		{api.SFragment, Seq(Lit("x"), Pred(Tok("b"))), "round 1 b"},
		{api.SFragment, api.Node{Kind: api.KSet, Subs: []api.Node{Tok("b")}}, "round 1 b"},
		{api.SToken, Ref("e"), "sort 1 e, empty 1 b"},
		{api.SToken, Star(Ref("e")), "sort 1 e, loop 1 b, empty 1 b"},
		{api.SToken, Plus(Tok("")), "none 1"},
		{api.SToken, Pred(Lit("x")), "empty 1 b"},
		{api.SToken, Alts(), ""},
	} {
		told(t, Grammar(slices.Concat([]api.Rule{a, Rule(k.sort, "b", k.n)}, last)...), k.want)
	}
}

// P6.1: it goes round by rules that are no parser's alone, and each name leads to its first rule.
func TestRound(t *testing.T) {
	f := func(name string, to ...string) api.Rule {
		n := Seq(Lit("x"))
		for _, s := range to {
			n.Subs = append(n.Subs, Tok(s))
		}
		return Rule(api.SFragment, name, n)
	}
	s := Parser("s", Seq())
	for _, k := range []struct {
		g    api.Grammar
		want string
	}{
		{Grammar(s, f("F", "p"), Parser("p", Tok("F"))), "sort 1 p, sort 2 F"},
		{Grammar(s, f("F", "p"), Parser("p", Ref("F"))), "sort 1 p, sort 2 F"},
		{Grammar(s, f("F", "E"), f("E"), f("E", "F")), "twice 3 E"},
		{Grammar(s, f("F", "E"), f("E", "F"), f("E")), "round 1 F, round 2 E, twice 3 E"},
		{Grammar(s, f("F"), f("F", "F")), "twice 2 F"},
		{Grammar(s, f("F", "F"), f("F", "F")), "round 1 F, twice 2 F"}, // the second one goes on to the first one alone
		{Grammar(s, Parser("F", Seq()), f("F", "F")), "twice 2 F, sort 2 F"},
		{Grammar(s, f("D", "F"), f("E", "D"), f("F", "E"), f("G", "H", "D"), f("H", "I"), f("I")), "round 1 D, round 2 E, round 3 F"},
		{Grammar(s, f("D", "E", "F"), f("E", "F"), f("F")), ""},
		{Grammar(s, f("D", "E"), f("E", "E", "F"), f("F", "G"), f("G", "F")), "round 2 E, round 3 F, round 4 G"},
	} {
		told(t, k.g, k.want)
	}
}

// P6.2: the chapter's words, with sorts in whatever order, more than once, and such as there are none of.
func TestStartAndOf(t *testing.T) {
	g := Grammar(Token("A", Lit("a")), Rule(api.SFragment, "F", Lit("f")), Parser("a", Seq()), Rule(strange, "z", Seq()), Rule(api.SSkip, "S", Lit("s")), Parser("b", Seq()), Token("B", Lit("b")), Parser("a", Seq()), Rule(api.SFragment, "F", Lit("f")))
	for _, k := range []struct {
		sorts []api.Sort
		want  []int
	}{
		{[]api.Sort{api.SParser}, []int{2, 5, 7}},
		{[]api.Sort{api.SToken}, []int{0, 6}},
		{[]api.Sort{api.SFragment}, []int{1, 8}},
		{[]api.Sort{api.SSkip}, []int{4}},
		{[]api.Sort{strange}, []int{3}},
		{[]api.Sort{strange + 1, 255}, nil},
		{[]api.Sort{api.SToken, api.SSkip}, []int{0, 4, 6}},
		{[]api.Sort{api.SSkip, api.SToken, api.SSkip}, []int{0, 4, 6}},
		{[]api.Sort{api.SSkip, api.SParser, strange, api.SFragment, api.SToken}, []int{0, 1, 2, 3, 4, 5, 6, 7, 8}},
		{[]api.Sort{}, nil},
		{nil, nil},
	} {
		if l := checks.Of(g, k.sorts...); !slices.Equal(l, k.want) || cap(l) != len(l) {
			t.Errorf("Of(%v): %v, room for %d", k.sorts, l, cap(l))
		}
	}
	if l := checks.Of(g, api.SToken, api.SSkip); !slices.Equal(l, []int{0, 4, 6}) {
		t.Error("Of:", l)
	}
	for at, want := range []int{2, 2, 2, 5, 5, 5, 7, 7, -1, -1} {
		cut := g
		cut.Rules = g.Rules[at:]
		if want >= 0 {
			want -= at
		}
		if i := checks.Start(cut); i != want {
			t.Errorf("Start behind %d rules: %d", at, i)
		}
	}
	if checks.Start(api.Grammar{}) != -1 || len(checks.Of(api.Grammar{}, api.SParser)) != 0 {
		t.Error("of no rules")
	}
	if checks.Start(api.Grammar{Rules: g.Rules[:2]}) != -1 { // what lies in the room behind is not there
		t.Error("Start: a rule that was not handed in")
	}
}

// P6.1: all limits at once, with something wrong at the last place, and with nothing.
func TestLimits(t *testing.T) {
	var rules []api.Rule
	for i := range api.MaxRules - 1 {
		next := Ref("r" + strconv.Itoa(i+1))
		if i == api.MaxRules-2 {
			next = Tok("T")
		}
		body := Seq(slices.Repeat([]api.Node{Star(next)}, (api.MaxNodes-api.MaxDeep-1)/2)...)
		body.Subs = append(body.Subs, Chain(api.MaxDeep-2, api.KPlus, next))
		rules = append(rules, Parser("r"+strconv.Itoa(i), body))
	}
	g := Grammar(append(rules, Token("T", Lit("t")))...)
	told(t, g, "")
	end := &g.Rules[api.MaxRules-2].Body
	*end = Opt(*end) // now each of the rules may be empty, and what each of their loops has but those of the last one
	var want []string
	for i := range api.MaxRules - 2 {
		at := strconv.Itoa(i)
		want = append(want, slices.Repeat([]string{"loop " + at + " r" + at}, (api.MaxNodes-api.MaxDeep-1)/2+api.MaxDeep-2)...)
	}
	told(t, g, strings.Join(want, ", "))
}

// P6.1: nodes within nodes, as many levels as anything is promised of.
func TestDeepNodes(t *testing.T) {
	const levels = 1<<16 - 3
	for _, k := range Kinds(api.KAlts, api.KPred) {
		if k == api.KRef || k == api.KTok {
			continue
		}
		for _, leaf := range []api.Node{Tok("A"), Seq(), Ref("c")} {
			told(t, Grammar(Parser("a", Star(Chain(levels, k, leaf))), Token("A", Lit("a"))), deep(k, leaf, levels))
		}
	}
}

// deep is what is wrong with a loop of so many nodes of a kind within one another, and a leaf.
func deep(k api.Kind, leaf api.Node, levels int) string {
	var l []string
	if leaf.Kind == api.KRef {
		l = append(l, "none 0 c")
	}
	loops := 0
	if leaf.Kind == api.KSeq || k == api.KOpt || k == api.KStar || k == api.KPred {
		loops = 1
	}
	if leaf.Kind == api.KSeq && (k == api.KStar || k == api.KPlus) {
		loops += levels
	} else if k == api.KStar {
		loops += levels - 1 // but for the one around the leaf
	}
	return strings.Join(append(l, slices.Repeat([]string{"loop 0 a"}, loops)...), ", ")
}

// R1: of a node that is within itself each call ends, and leaves it as it is; of its rule nothing is told by it, of the others all is.
func TestRings(t *testing.T) {
	for _, n := range Rings(Tok("X")) {
		for _, sort := range []api.Sort{api.SParser, api.SToken} {
			g := Grammar(Rule(sort, "r", n), Parser("a", Seq(Ref("a"), Ref("b"))), Token("A", Opt(Tok("C"))))
			told(t, g, "none 1 b, left 1 a, none 2 C, empty 2 A")
			if b := g.Rules[0].Body; b.Kind != n.Kind || len(b.Subs) != len(n.Subs) {
				t.Error("another body:", b.Kind, len(b.Subs))
			}
			told(t, Grammar(Parser("a", Seq()), Rule(sort, "r", Star(Seq(), n, Tok("r")))), "")
		}
	}
}

// many is a grammar with all that can be wrong.
func many(t *testing.T) api.Grammar {
	g := Read("a : (x a S (y*)? B?)* ; a : (a (A?)*)+ ; skip S : S (S? Z)+ (Z? S*)* ; A : (S A)* (A*)* ; A : ; fragment S : T ;")
	g.Rules = append(g.Rules, Rule(strange, "z", Ref("z")), Parser("l", Seq(Ref("l"), api.Node{Kind: api.KRef, Name: "q", Set: []api.Range{{Low: 1, High: 2}}, Subs: []api.Node{Star(Star(), Seq())}})))
	return g
}

// shares tells whether a text's memory is another one's.
func shares(a, b string) bool {
	return len(a) > 0 && unsafe.StringData(a) == unsafe.StringData(b)
}

// R1, R4, R5: nothing that is handed in changes, nothing of it is kept, lists have no room behind, and the same call answers the same, whatever became of an answer.
func TestApart(t *testing.T) {
	g := many(t)
	was := g
	was.Rules = slices.Clone(g.Rules)
	for i, r := range g.Rules {
		was.Rules[i].Body = nodes.Copy(r.Body)
	}
	l := checks.Check(g)
	want := line(l)
	if cap(l) != len(l) || len(l) < 30 {
		t.Errorf("%d problems, room for %d", len(l), cap(l))
	}
	for _, p := range l {
		if p.Rule >= 0 && shares(p.Name, g.Rules[p.Rule].Name) {
			t.Error("a name shares memory with the grammar:", p.Name)
		}
	}
	clear(l)
	if s := line(checks.Check(g)); s != want {
		t.Error("another answer of the same:", s)
	}
	sorts := []api.Sort{api.SToken, api.SSkip}
	of := checks.Of(g, sorts...)
	clear(of)
	if of := checks.Of(g, sorts...); !slices.Equal(of, []int{2, 3, 4}) || !slices.Equal(sorts, []api.Sort{api.SToken, api.SSkip}) {
		t.Error("another answer of the same:", of, sorts)
	}
	checks.Fine(g)
	checks.Start(g)
	if !reflect.DeepEqual(g, was) {
		t.Error("what was handed in is another one")
	}
}
