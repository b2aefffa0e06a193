package atns_test

import (
	"math"
	"reflect"
	"slices"
	"strconv"
	"testing"
	"unsafe"

	"harbinger/api"
	"harbinger/atns"
	"harbinger/checks"
	"harbinger/grams"
	. "harbinger/made"
	"harbinger/nodes"
)

// whole is a grammar of rules, and of tokens A, B, C behind them.
func whole(rules ...api.Rule) api.Grammar {
	return Grammar(append(rules, Token("A", Lit("a")), Token("B", Lit("b")), Token("C", Lit("c")))...)
}

// one is a grammar of one rule for parsing.
func one(body api.Node) api.Grammar {
	return whole(Parser("a", body))
}

// built is the net of a grammar of which there is one; of what is to be in each it holds what a line does not tell.
func built(t *testing.T, g api.Grammar) atns.Net {
	t.Helper()
	n, e := atns.Build(g)
	if e != api.OK {
		t.Fatalf("Build(%.500s): error %d", grams.Print(g), e)
	}
	var decisions []int
	for i, s := range n.States {
		if len(s.Ends) > 0 {
			decisions = append(decisions, i)
		}
	}
	if !slices.Equal(n.Decisions, decisions) {
		t.Errorf("Build(%.500s): decisions %v, not %v", grams.Print(g), n.Decisions, decisions)
	}
	if grams.Sound(g) && !atns.May(n) {
		t.Errorf("Build(%.500s): a net that may not be: %.500s", grams.Print(g), NetLine(n))
	}
	return n
}

// refused holds that there is an error, and nothing beside it.
func refused(t *testing.T, g api.Grammar, want api.Errno) {
	t.Helper()
	n, e := atns.Build(g)
	if e != want || !reflect.DeepEqual(n, atns.Net{}) {
		t.Errorf("Build(%.500s): error %d, not %d, with %d states", grams.Print(g), e, want, len(n.States))
	}
}

// told holds the net of a grammar against what is awaited.
func told(t *testing.T, g api.Grammar, want string) {
	t.Helper()
	if s := NetLine(built(t, g)); s != want {
		t.Errorf("Build(%.1000s):\n%.1000s, not\n%.1000s", grams.Print(g), s, want)
	}
}

// P12.1: the chapter's example, number by number.
func TestExample(t *testing.T) {
	n := built(t, Read("a : B | C ; B : 'b' ; C : 'c' ;"))
	want := atns.Net{
		States: []atns.State{
			{Edges: []atns.Edge{{Kind: atns.EdEmpty, To: 2}}},
			{},
			{Edges: []atns.Edge{{To: 4}, {To: 5}}, Ends: []int{3, 3}},
			{Edges: []atns.Edge{{To: 1}}},
			{Edges: []atns.Edge{{Kind: atns.EdToken, What: 0, To: 3}}},
			{Edges: []atns.Edge{{Kind: atns.EdToken, What: 1, To: 3}}},
		},
		Starts:    []int{0},
		Stops:     []int{1},
		Decisions: []int{2},
	}
	if !reflect.DeepEqual(n, want) {
		t.Error(n)
	}
	if kinds := [...]atns.Kind{atns.EdEmpty, atns.EdToken, atns.EdRule, atns.EdPred}; kinds != [...]atns.Kind{0, 1, 2, 3} {
		t.Error(kinds)
	}
}

// P12.1: one rule's body, as one writes it.
func TestBodies(t *testing.T) {
	for _, k := range []struct{ text, want string }{
		{"", "0/1: >1; ."},
		{"A", "0/1: t0>1; ."},
		{"C", "0/1: t2>1; ."},
		{"A B", "0/1: t0>2; .; t1>1"},
		{"A B C", "0/1: t0>2; .; t1>3; t2>1"},
		{"A () B", "0/1: t0>2; .; >3; t1>1"},
		{"(A B) C", "0/1: t0>3; .; t2>1; t1>2"},
		{"A (B C)", "0/1: t0>2; .; t1>3; t2>1"},

		{"A | B", "0/1: >2; .; >4 >5 !3 !3; >1; t0>3; t1>3"},
		{"A B | C", "0/1: >2; .; >4 >6 !3 !3; >1; t0>5; t1>3; t2>3"},
		{"A | B C |", "0/1: >2; .; >4 >5 >7 !3 !3 !3; >1; t0>3; t1>6; t2>3; >3"},
		{"A | A", "0/1: >2; .; >4 >5 !3 !3; >1; t0>3; t0>3"},
		{"(A | B) | C", "0/1: >2; .; >4 >9 !3 !3; >1; >5; >7 >8 !6 !6; >3; t0>6; t1>6; t2>3"},
		{"(A | B) C", "0/1: >3; .; t2>1; >5 >6 !4 !4; >2; t0>4; t1>4"},

		{"A?", "0/1: >2; .; >4 >5 !3 !3; >1; t0>3; >3"},
		{"A B?", "0/1: t0>2; .; >3; >5 >6 !4 !4; >1; t1>4; >4"},
		{"A? B", "0/1: >3; .; t1>1; >5 >6 !4 !4; >2; t0>4; >4"},
		{"(A B)?", "0/1: >2; .; >4 >6 !3 !3; >1; t0>5; t1>3; >3"},

		{"A*", "0/1: >2; .; >4 >5 !2 !3; >1; t0>2; >3"},
		{"(A B)*", "0/1: >2; .; >4 >6 !2 !3; >1; t0>5; t1>2; >3"},
		{"(A | B)*", "0/1: >2; .; >4 >9 !2 !3; >1; >5; >7 >8 !6 !6; >2; t0>6; t1>6; >3"},

		{"A+", "0/1: >2; .; t0>3; >2 >5 !3 !4; >1; >4"},
		{"(A | B)+", "0/1: >2; .; >5; >2 >9 !3 !4; >1; >7 >8 !6 !6; >3; t0>6; t1>6; >4"},
		{"(A+)?", "0/1: >2; .; >4 >9 !3 !3; >1; >5; t0>6; >5 >8 !6 !7; >3; >7; >3"},
		{"A* B C+", "0/1: >3; .; t1>7; >5 >6 !3 !4; >2; t0>3; >4; >8; t2>9; >8 >11 !9 !10; >1; >10"},

		{"(A) =>", "0/1 p2: p0>1; .; t0>3; ."},
		{"() =>", "0/1 p2: p0>1; .; >3; ."},
		{"(A) => B", "0/1 p3: p0>2; .; t1>1; t0>4; ."},
		{"(A) => B | C", "0/1 p7: >2; .; >4 >6 !3 !3; >1; p0>5; t1>3; t2>3; t0>8; ."},
		{"(A | B) => C", "0/1 p3: p0>2; .; t2>1; >5; .; >7 >8 !6 !6; >4; t0>6; t1>6"},
		{"(A* B) => A", "0/1 p3: p0>2; .; t0>1; >6; .; t1>4; >8 >9 !6 !7; >5; t0>6; >7"},
		{"((A) => B)*", "0/1 p7: >2; .; >4 >6 !2 !3; >1; p0>5; t1>2; >3; t0>8; ."},
		{"((A) =>)?", "0/1 p6: >2; .; >4 >5 !3 !3; >1; p0>3; >3; t0>7; ."},
		{"((A) =>) =>", "0/1 p2 p4: p0>1; .; p1>3; .; t0>5; ."},
		{"((A) => B) => C | (B) => A", "0/1 p8 p11 p13: >2; .; >4 >6 !3 !3; >1; p0>5; t2>3; p1>7; t0>3; p2>10; .; t1>9; t1>12; .; t0>14; ."},
	} {
		told(t, Read("a : "+k.text+" ; A : 'a' ; B : 'b' ; C : 'c' ;"), k.want)
	}
}

// P12.1: rules, tokens and predicates are told by their numbers, whatever stands between them.
func TestRules(t *testing.T) {
	for _, k := range []struct{ text, want string }{
		{"a : ;", "0/1: >1; ."},
		{"A : 'a' ; a : A ;", "0/1: t0>1; ."},
		{"skip S : ' ' ; a : A ; A : 'a' ;", "0/1: t1>1; ."},
		{"a : b ; b : ;", "0/1 2/3: r1>1; .; @1 >3; ."},
		{"a : ; b : ; c : a b c2 ; c2 : b ;", "0/1 2/3 4/5 8/9: >1; .; @1 >3; .; @2 r0>6; .; r1>7; r3>5; @3 r1>9; ."},
		{"skip S : ' ' ; a : B b ; A : 'a' ; b : A a? ; fragment F : 'f' ; B : F ; c : b ;",
			"0/1 3/4 10/11: t2>2; .; r1>1; @1 t1>5; .; >6; >8 >9 !7 !7; >4; r0>7; >7; @2 r1>11; ."},
		{"A : 'a' ; B : 'b' ; a : (A) => b ; b : ((B) => B) => A | (A) => ;",
			"0/1 3/4 p10 p12 p15 p17: p0>2; .; r1>1; @1 >5; .; >7 >9 !6 !6; >4; p1>8; t0>6; p2>6; @0 t0>11; .; @1 p3>14; .; t1>13; t0>16; .; t1>18; ."},
		{"A : 'a' ; b : (a A) => A ; a : ((A) =>)? A ;",
			"0/1 3/4 p10 p13: p0>2; .; t0>1; @1 >6; .; t0>4; >8 >9 !7 !7; >5; p1>7; >7; @0 r1>12; .; t0>11; @1 t0>14; ."},
	} {
		told(t, Read(k.text), k.want)
	}
}

// P12.1: nodes that no text has.
func TestOddNodes(t *testing.T) {
	a, b := Tok("A"), Tok("B")
	full := func(k api.Kind, subs ...api.Node) api.Node {
		return api.Node{Kind: k, Name: "B", Text: "x", Set: Set('x', 'y').Set, Subs: subs}
	}
	for _, k := range []struct {
		n    api.Node
		want string
	}{
		{api.Node{}, "0/1: >2; .; .; >1"},
		{Alts(), "0/1: >2; .; .; >1"}, // no decision: it has no Ends
		{Alts(a), "0/1: >2; .; >4 !3; >1; t0>3"},
		{Alts(Alts(), a), "0/1: >2; .; >4 >7 !3 !3; >1; >5; .; >3; t0>3"},
		{Seq(a), "0/1: t0>1; ."}, // of one
		{Seq(Seq(Seq(a))), "0/1: t0>1; ."},
		{Seq(Seq()), "0/1: >1; ."},
		{Seq(a, Seq(b), Seq(Seq())), "0/1: t0>2; .; t1>3; >1"},

		{Opt(), "0/1: >2; .; >4 >5 !3 !3; >1; >3; >3"}, // their Sub is KSeq of none
		{Star(), "0/1: >2; .; >4 >5 !2 !3; >1; >2; >3"},
		{Plus(), "0/1: >2; .; >3; >2 >5 !3 !4; >1; >4"},
		{Pred(), "0/1 p2: p0>1; .; >3; ."},
		{Opt(b, a), "0/1: >2; .; >4 >5 !3 !3; >1; t1>3; >3"}, // the first one counts
		{Star(b, a), "0/1: >2; .; >4 >5 !2 !3; >1; t1>2; >3"},
		{Plus(b, a), "0/1: >2; .; t1>3; >2 >5 !3 !4; >1; >4"},
		{Pred(b, a), "0/1 p2: p0>1; .; t1>3; ."},
		{Seq(Opt(b, Pred(a)), Pred(Seq(), Pred(a))), "0/1 p7: >3; .; p0>1; >5 >6 !4 !4; >2; t1>4; >4; >8; ."},
		{Seq(Star(b, Pred(a)), Plus(b, Star(a))), "0/1: >3; .; >7; >5 >6 !3 !4; >2; t1>3; >4; t1>8; >7 >10 !8 !9; >1; >9"},

		{Seq(a, Pred(b), a), "0/1 p4: t0>2; .; p0>3; t0>1; t1>5; ."}, // not the first one
		{Seq(Pred(a), Pred(b)), "0/1 p3 p5: p0>2; .; p1>1; t0>4; .; t1>6; ."},
		{Pred(Pred(Pred(a))), "0/1 p2 p4 p6: p0>1; .; p1>3; .; p2>5; .; t0>7; ."},

		{Lit("x"), "0/1: >1; ."}, // other kinds
		{Lit(""), "0/1: >1; ."},
		{Set('a', 'b'), "0/1: >1; ."},
		{Node(api.KSet + 1), "0/1: >1; ."},
		{Node(math.MaxUint8, a, b), "0/1: >1; ."},
		{full(api.KLit, a, Pred(b)), "0/1: >1; ."},
		{full(api.KSet, Alts(a, b)), "0/1: >1; ."},
		{full(api.KSeq), "0/1: >1; ."},
		{full(api.KSeq, a), "0/1: t0>1; ."},
		{full(api.KTok, a, Pred(a)), "0/1: t1>1; ."},
		{full(api.KAlts, a, b), "0/1: >2; .; >4 >5 !3 !3; >1; t0>3; t1>3"},
		{full(api.KPred, Seq()), "0/1 p2: p0>1; .; >3; ."},
		{Seq(Lit("x"), full(api.KSet+1, Pred(a)), a), "0/1: >2; .; >3; t0>1"},
	} {
		told(t, one(k.n), k.want)
	}
	ref := api.Node{Kind: api.KRef, Name: "b", Text: "x", Subs: []api.Node{Pred(Tok("A"))}}
	told(t, whole(Parser("a", ref), Rule(api.SSkip+1, "z", Lit("x")), Parser("b", b)), "0/1 2/3: r1>1; .; @1 t1>3; .")
}

// P12.1: a grammar with which something is wrong, whatever that is, and whatever else there is (R2).
func TestWrong(t *testing.T) {
	many := Seq(slices.Repeat([]api.Node{Seq()}, api.MaxStates)...)
	refused(t, Grammar(Parser("z", many)), api.ErrLimit)
	for _, s := range Faults() {
		g := Read(s)
		refused(t, g, api.ErrArg)
		if checks.Start(g) >= 0 { // else nothing is wrong with it then
			g.Rules = append(g.Rules, Parser("z", many))
			refused(t, g, api.ErrArg)
		}
	}
	refused(t, api.Grammar{}, api.ErrArg)
	refused(t, Grammar(), api.ErrArg)
	refused(t, Grammar(Parser("a", Tok("b")), Parser("b", Seq())), api.ErrArg)
	refused(t, one(Ref("A")), api.ErrArg)
	refused(t, one(Seq(Tok("A"), Alts(Tok("B"), Opt(Ref("none"))))), api.ErrArg)
	told(t, one(Star(Alts())), "0/1: >2; .; >4 >7 !2 !3; >1; >5; .; >2; >3") // nothing is wrong with it
}

// P12.1: as many states as may be, and one more, however they come.
func TestManyStates(t *testing.T) {
	a := Tok("A")
	times := func(count int, n api.Node) []api.Node { return slices.Repeat([]api.Node{n}, count) }
	for name, k := range map[string]struct {
		body  []api.Node // one behind the other
		rules []api.Rule
	}{
		"one behind the other": {times(api.MaxStates-1, a), nil},
		"one or the other":     {[]api.Node{Alts(times(api.MaxStates-5, a)...), a}, nil},
		"options":              {[]api.Node{Chain(1023, api.KOpt, a), a, a}, nil},
		"loops":                {[]api.Node{Chain(1023, api.KPlus, a), a, a}, nil},
		"loops, or nothing":    {append(times(818, Star(a)), a, a, a, a, a), nil},
		"predicates":           {times(1365, Pred(a)), nil},
		"within one another":   {[]api.Node{Chain(2046, api.KPred, a), a, a}, nil},
		"bodies of predicates": {[]api.Node{Pred(Seq(times(2000, a)...)), Pred(Seq(times(api.MaxStates-2000-5, a)...))}, nil},
	} {
		g := whole(append(k.rules, Parser("a", Seq(k.body...)))...)
		if n := built(t, g); len(n.States) != api.MaxStates {
			t.Error(name, len(n.States))
			continue
		}
		for _, n := range []api.Node{Seq(), a, Alts(), Opt(), Star(), Plus(), Pred(), Lit("x"), Set(), Node(api.KSet + 1)} {
			body := append(slices.Clip(k.body), n)
			refused(t, whole(append(k.rules, Parser("a", Seq(body...)))...), api.ErrLimit)
			slices.Reverse(body)
			refused(t, whole(append(k.rules, Parser("a", Seq(body...)))...), api.ErrLimit)
		}
		refused(t, whole(append(k.rules, Parser("a", Seq(k.body...)), Parser("b", a))...), api.ErrLimit)
		refused(t, whole(append(k.rules, Parser("b", Seq()), Parser("a", Seq(k.body...)))...), api.ErrLimit)
	}
}

// P12.1: as many rules as states let be.
func TestManyRules(t *testing.T) {
	var rules []api.Rule
	for i := range api.MaxStates / 2 {
		rules = append(rules, Parser("r"+strconv.Itoa(i), Ref("r"+strconv.Itoa(i+1))))
	}
	last := len(rules) - 1
	rules[last].Body = Tok("C")
	n := built(t, whole(rules...))
	for i := range rules {
		edge := atns.Edge{Kind: atns.EdRule, What: i + 1, To: 2*i + 1}
		if i == last {
			edge = atns.Edge{Kind: atns.EdToken, What: 2, To: 2*i + 1}
		}
		if n.Starts[i] != 2*i || n.Stops[i] != 2*i+1 || n.States[2*i].Rule != i || n.States[2*i+1].Rule != i || !slices.Equal(n.States[2*i].Edges, []atns.Edge{edge}) {
			t.Fatal(i, n.Starts[i], n.Stops[i], n.States[2*i])
		}
	}
	rules[last].Body = Pred(Tok("C"))
	refused(t, whole(rules...), api.ErrLimit)
	rules[last].Body = Ref("z")
	refused(t, whole(append(rules, Parser("z", Seq()))...), api.ErrLimit)
}

// P12.1: nodes within nodes, as many levels as anything is promised of.
func TestDeepNodes(t *testing.T) {
	const levels = 1<<16 - 2
	a := Tok("A")
	told(t, one(Chain(levels, api.KSeq, a)), "0/1: t0>1; .")
	told(t, one(Seq(Chain(levels, api.KSeq, a), Chain(levels, api.KSeq, Star(a)))), "0/1: t0>2; .; >3; >5 >6 !3 !4; >1; t0>3; >4")
	told(t, one(Pred(Chain(levels, api.KSeq, Seq()))), "0/1 p2: p0>1; .; >3; .")
	told(t, one(Chain(levels, api.KLit, Pred(a))), "0/1: >1; .") // that is not gone through
	told(t, one(Opt(a, Chain(levels, api.KOpt, Pred(a)))), "0/1: >2; .; >4 >5 !3 !3; >1; t0>3; >3")
	for _, k := range []api.Kind{api.KAlts, api.KOpt, api.KPlus, api.KPred} {
		refused(t, one(Chain(levels, k, a)), api.ErrLimit)
		refused(t, one(Seq(a, Chain(levels, k, a), a)), api.ErrLimit)
	}
	refused(t, one(Seq(Chain(levels, api.KSeq, a), Chain(levels, api.KAlts, Seq()))), api.ErrLimit)
}

// R1: of a node that is within itself each call ends, and leaves it as it is; where it is gone through, there is more than may be.
func TestRings(t *testing.T) {
	a := Tok("A")
	for _, leaf := range []api.Node{a, Tok("none"), Ref("none"), Ref("r"), Ref("A"), Tok("r"), Seq(), Pred(a)} {
		for _, n := range Rings(leaf) {
			g := whole(Parser("s", Seq(a, a)), Parser("r", n), Parser("p", Pred(a)))
			net, e := atns.Build(g)
			if e != api.OK && (e != api.ErrLimit || !reflect.DeepEqual(net, atns.Net{})) {
				t.Errorf("a ring of kind %d: error %d", n.Kind, e)
			}
			if gone := goes(n, 0); gone != (e == api.ErrLimit) {
				t.Errorf("a ring of kind %d, which is gone through: %t; error %d", n.Kind, gone, e)
			}
			if e == api.OK && !atns.May(net) {
				t.Errorf("a ring of kind %d: a net that may not be: %s", n.Kind, NetLine(net))
			}
			if r := g.Rules[1].Body; r.Kind != n.Kind || len(r.Subs) != len(n.Subs) {
				t.Error("another body:", r.Kind, len(r.Subs))
			}
		}
	}
	for _, n := range Rings(Lit("x")) { // of a rule that is not gone through
		told(t, whole(Parser("a", a), Rule(api.SFragment, "F", n)), "0/1: t0>1; .")
	}
	for _, k := range []api.Kind{api.KSeq, api.KAlts} { // what is beside is not gone through any more
		wide := Wide(k)
		refused(t, whole(Parser("a", wide), Parser("b", wide)), api.ErrLimit)
	}
}

// goes tells whether going through a node never ends: on some way down through Subs that count there are more of them than a ring has that ends.
func goes(n api.Node, deep int) bool {
	subs := n.Subs
	switch n.Kind {
	case api.KOpt, api.KStar, api.KPlus, api.KPred:
		subs = subs[:min(1, len(subs))]
	case api.KSeq, api.KAlts:
	default:
		return false
	}
	return deep > 9 || slices.ContainsFunc(subs, func(s api.Node) bool { return goes(s, deep+1) })
}

// R1, R4, R5: nothing that is handed in changes, nothing of it is kept, lists have no room behind and share no memory, and the same call answers the same, whatever became of an answer.
func TestApart(t *testing.T) {
	g := Read("skip S : ' ' ; a : b* (A | B b? | ) ; A : 'a' ; b : (b2 | A) => (A | B)+ b2 | ((A b2) => A A A A A)* A ; B : 'b' ; b2 : (A* B) => A | B | A B | B A |  ;")
	was := g
	was.Rules = slices.Clone(g.Rules)
	for i, r := range g.Rules {
		was.Rules[i].Body = nodes.Copy(r.Body)
	}
	n := built(t, g)
	want := NetLine(n)
	if len(n.States) < 50 || len(n.Preds) != 3 || len(n.Decisions) < 8 {
		t.Error(want)
	}
	apart(t, n)
	spoil(n)
	if !reflect.DeepEqual(g, was) {
		t.Error("what was handed in is another one")
	}
	other := built(t, g)
	if NetLine(other) != want {
		t.Error("another answer of the same:", NetLine(other))
	}
	copied := CopiedNet(other)
	for range 2 {
		if !atns.May(other) || !reflect.DeepEqual(other, copied) {
			t.Error("a net is another one when it was asked")
		}
	}
	for _, r := range g.Rules {
		clear(r.Body.Subs)
	}
	clear(g.Rules)
	if NetLine(other) != want {
		t.Error("what was handed in is kept:", NetLine(other))
	}
}

// apart holds that no two lists of a net share memory, and that none has room behind.
func apart(t *testing.T, n atns.Net) {
	t.Helper()
	lists := map[*int]bool{}
	for i, l := range numbers(n) {
		if cap(l) != len(l) || lists[unsafe.SliceData(l)] {
			t.Errorf("list %d: %v, room for %d", i, l, cap(l))
		}
		if len(l) > 0 {
			lists[unsafe.SliceData(l)] = true
		}
	}
	if cap(n.States) != len(n.States) {
		t.Errorf("%d states, room for %d", len(n.States), cap(n.States))
	}
	edges := map[*atns.Edge]bool{}
	for i, s := range n.States {
		if cap(s.Edges) != len(s.Edges) || edges[unsafe.SliceData(s.Edges)] {
			t.Errorf("edges of %d: %v, room for %d", i, s.Edges, cap(s.Edges))
		}
		if len(s.Edges) > 0 {
			edges[unsafe.SliceData(s.Edges)] = true
		}
	}
}

// numbers are a net's lists of such.
func numbers(n atns.Net) [][]int {
	all := [][]int{n.Starts, n.Stops, n.Preds, n.Decisions}
	for _, s := range n.States {
		all = append(all, s.Ends)
	}
	return all
}

// spoil overwrites all of a net.
func spoil(n atns.Net) {
	for _, l := range numbers(n) {
		for i := range l {
			l[i] = -7
		}
	}
	for _, s := range n.States {
		for i := range s.Edges {
			s.Edges[i] = atns.Edge{Kind: 9, What: -7, To: -7}
		}
	}
	clear(n.States)
}
