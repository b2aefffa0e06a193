package nulls_test

import (
	"math"
	"reflect"
	"slices"
	"strconv"
	"strings"
	"testing"

	"harbinger/api"
	"harbinger/grams"
	. "harbinger/made"
	"harbinger/nulls"
)

// strange is a sort that is none of the four: no parser's.
const strange = api.SSkip + 1

// marks are written as a text: a + for each that holds.
func marks(l []bool) string {
	var b strings.Builder
	for _, x := range l {
		if x {
			b.WriteByte('+')
		} else {
			b.WriteByte('-')
		}
	}
	return b.String()
}

// table is a row of marks a rule, a blank between each two.
func table(rows [][]bool) string {
	var l []string
	for _, r := range rows {
		l = append(l, marks(r))
	}
	return strings.Join(l, " ")
}

// told holds all that is told of a grammar's rules against what is awaited, and what follows.
func told(t *testing.T, g api.Grammar, empty, reach string) {
	t.Helper()
	if s := marks(nulls.Empty(g)); s != empty {
		t.Errorf("Empty(%v): %s, not %s", g.Rules, s, empty)
	}
	if s := table(nulls.Reach(g)); s != reach {
		t.Errorf("Reach(%v): %s, not %s", g.Rules, s, reach)
	}
	for i, r := range g.Rules {
		if nulls.May(g, i, r.Body) != (empty[i] == '+') {
			t.Errorf("May(%v, %d): the body is not as the rule", g.Rules, i)
		}
	}
}

// P5.1, P5.2: the chapter's example.
func TestExample(t *testing.T) {
	g := Grammar(Parser("a", Alts(Seq(Opt(Ref("b")), Tok("C")), Seq())), Parser("b", Seq(Ref("a"), Tok("D"))))
	told(t, g, "+-", "++ ++")
	if nulls.Find(g, "a") != 0 || nulls.Find(g, "b") != 1 || nulls.Find(g, "C") != -1 {
		t.Error("Find")
	}
}

// P5.1, P5.2: a grammar as one writes it.
func TestOrdinary(t *testing.T) {
	g, fault := grams.Read(`grammar Lists;
list   : head? (item (COMMA item)*)? tail ;
head   : (NAME EQUALS) => NAME EQUALS | ;
item   : NAME | number | OPEN list CLOSE ;
number : sign* DIGITS ;
sign   : PLUS | MINUS | blank+ ;
blank  : () | (sign) => DIGITS ;
tail   : head blank (number | tail)? ;
NAME   : [a-z] ([a-z] | Digit)* ;
DIGITS : Digit+ Exponent? ;
fragment Digit    : '0'..'9' ;
fragment Exponent : Mark? ('e' Digit+)? ;
fragment Mark     : ~[e] | ;
skip GAP          : (' ' | Mark)* ;
`)
	if fault.E != api.OK {
		t.Fatal(fault)
	}
	told(t, g, "++--+++---+++", "-++++++------ ------------- ---+++------- ----++------- ----++------- ----++------- -+-++++------ "+
		"------------- ---------+--- ------------- -----------+- ------------- -----------+-")
	if at := nulls.Find(g, "Mark"); at != 11 {
		t.Errorf("Find: %d", at)
	}
}

// P5.1: the first rule of a name, of whichever sort; none.
func TestFind(t *testing.T) {
	g := Grammar(Token("A", Lit("a")), Parser("b", Seq()), Parser("A", Seq()), Rule(strange, "b", Seq()), Rule(api.SSkip, "", Seq()), Rule(api.SFragment, "é\xff", Seq()), Parser("", Seq()), Token("Ab", Seq()))
	for name, want := range map[string]int{"A": 0, "b": 1, "": 4, "é\xff": 5, "Ab": 7, "a": -1, "B": -1, "é": -1, "AA": -1, "A ": -1, "\x00": -1} {
		if at := nulls.Find(g, name); at != want {
			t.Errorf("Find(%q): %d", name, at)
		}
	}
	g.Rules = g.Rules[:4]
	for _, g := range []api.Grammar{{}, Grammar(), {Name: "a", Rules: []api.Rule{}}, g} {
		for _, name := range []string{"", "a", "G"} {
			if at := nulls.Find(g, name); at != -1 {
				t.Errorf("Find(%q): %d of %d rules", name, at, len(g.Rules))
			}
		}
	}
}

// known are rules of each sort that may be empty, and that may not; and names that the first rule of another sort has.
func known() api.Grammar {
	return Grammar(
		Parser("e", Seq()), Parser("n", Tok("N")),
		Token("E", Lit("")), Token("N", Lit("x")),
		Rule(api.SFragment, "FE", Seq()), Rule(api.SFragment, "FN", Set('a', 'b')),
		Rule(api.SSkip, "SE", Opt(Lit("x"))), Rule(api.SSkip, "SN", Alts()),
		Rule(strange, "ZE", Star()), Rule(strange, "ZN", Plus()),
		Token("x", Seq()), Parser("x", Seq()), Parser("X", Seq()), Token("X", Seq()),
	)
}

// places of those rules, by name.
const (
	e = iota
	n
	tokE
	tokN
	fragE
	fragN
	skipE
	skipN
	strangeE
	strangeN
	tokX
	_
	parserX
)

// cases are nodes, whether each may be empty, and which of the known rules are reached by it at once, if a rule's body is that; in a parser's rule, and in another one.
func cases() []struct {
	n      api.Node
	in     string // of a parser's rule, and of another one: + if it may be empty
	parser []int
	other  []int
} {
	type l = []int
	return []struct {
		n      api.Node
		in     string
		parser []int
		other  []int
	}{
		{Seq(), "++", nil, nil},
		{Seq(Ref("e"), Opt(Ref("n")), Ref("e"), Lit("")), "++", l{e, n}, l{e, n}},
		{Seq(Ref("n"), Ref("e")), "--", l{n}, l{n}},
		{Seq(Ref("e"), Ref("n"), Tok("E")), "--", l{e, n}, l{e, n}},
		{Seq(Opt(), Set(), Ref("e")), "--", nil, nil},
		{Seq(Lit("a"), Ref("e")), "--", nil, nil},
		{Seq(Tok("E"), Ref("e")), "-+", nil, l{tokE, e}},
		{Seq(Pred(Ref("n")), Ref("e")), "++", l{n, e}, l{n, e}},
		{Seq(Ref("e"), Alts(), Ref("n")), "--", l{e}, l{e}},
		{Seq(Ref("e"), Plus(Ref("n"), Ref("e")), Ref("n"), Ref("e")), "--", l{e, n}, l{e, n}},
		{Seq(Ref("none"), Ref("e")), "--", nil, nil},
		{Seq(Seq(Seq(), Ref("e")), Seq(Ref("n"), Tok("E")), Ref("x")), "--", l{e, n}, l{e, n}},
		{Seq(Seq()), "++", nil, nil},
		{Alts(), "--", nil, nil},
		{Alts(Tok("E"), Ref("n")), "-+", l{n}, l{tokE, n}},
		{Alts(Ref("n"), Ref("e")), "++", l{e, n}, l{e, n}},
		{Alts(Ref("e"), Ref("n")), "++", l{e, n}, l{e, n}},
		{Alts(Set('a', 'a'), Lit(""), Lit("b")), "++", nil, nil},
		{Alts(Lit("a"), Seq(Ref("n"), Ref("e"))), "--", l{n}, l{n}},
		{Alts(Opt()), "++", nil, nil},
		{Plus(), "--", nil, nil},
		{Plus(Ref("n")), "--", l{n}, l{n}},
		{Plus(Ref("e")), "++", l{e}, l{e}},
		{Plus(Ref("n"), Ref("e")), "++", l{e, n}, l{e, n}},
		{Plus(Lit("a"), Ref("n"), Lit("b")), "--", l{n}, l{n}},
		{Opt(), "++", nil, nil},
		{Opt(Ref("n")), "++", l{n}, l{n}},
		{Opt(Ref("n"), Ref("e")), "++", l{e, n}, l{e, n}},
		{Star(), "++", nil, nil},
		{Star(Ref("n")), "++", l{n}, l{n}},
		{Star(Seq(Lit("a"), Ref("e")), Ref("n")), "++", l{n}, l{n}},
		{Pred(), "++", nil, nil},
		{Pred(Ref("n")), "++", l{n}, l{n}},
		{Pred(Seq(Tok("E"), Ref("n")), Ref("e")), "++", l{e}, l{tokE, n, e}},
		{Lit(""), "++", nil, nil},
		{Lit("a"), "--", nil, nil},
		{Lit("\x00"), "--", nil, nil},
		{Lit("\xff"), "--", nil, nil},
		{api.Node{Kind: api.KLit, Name: "e", Subs: []api.Node{Ref("n")}}, "++", nil, nil},
		{api.Node{Kind: api.KLit, Text: "a", Subs: []api.Node{Ref("e")}}, "--", nil, nil},
		{Set(), "--", nil, nil},
		{Set('b', 'a'), "--", nil, nil},
		{Set('a', 'z'), "--", nil, nil},
		{api.Node{Kind: api.KSet, Name: "e", Subs: []api.Node{Ref("e")}}, "--", nil, nil},
		{Node(api.KSet+1, Ref("e")), "--", nil, nil},
		{api.Node{Kind: api.KSet + 1, Name: "e"}, "--", nil, nil},
		{Node(math.MaxUint8, Seq()), "--", nil, nil},
		{api.Node{Kind: api.KSeq, Name: "n", Text: "n", Set: Set('a', 'b').Set}, "++", nil, nil},
		{api.Node{Kind: api.KOpt, Name: "e"}, "++", nil, nil},
		{Ref("e"), "++", l{e}, l{e}},
		{Ref("n"), "--", l{n}, l{n}},
		{api.Node{Kind: api.KRef, Name: "e", Text: "a", Subs: []api.Node{Tok("N"), Ref("n")}}, "++", l{e}, l{e}},
		{api.Node{Kind: api.KRef, Name: "n", Subs: []api.Node{Ref("e")}}, "--", l{n}, l{n}},
		{Ref("none"), "--", nil, nil},
		{Ref(""), "--", nil, nil},
		{Ref("E"), "--", nil, nil},
		{Ref("FE"), "--", nil, nil},
		{Ref("SE"), "--", nil, nil},
		{Ref("ZE"), "--", nil, nil},
		{Ref("x"), "--", nil, nil}, // the first one of that name is a token's
		{Ref("X"), "++", l{parserX}, l{parserX}},
		{Tok("E"), "-+", nil, l{tokE}},
		{Tok("N"), "--", nil, l{tokN}},
		{Tok("FE"), "-+", nil, l{fragE}},
		{Tok("FN"), "--", nil, l{fragN}},
		{Tok("SE"), "-+", nil, l{skipE}},
		{Tok("SN"), "--", nil, l{skipN}},
		{Tok("ZE"), "-+", nil, l{strangeE}},
		{Tok("ZN"), "--", nil, l{strangeN}},
		{Tok("x"), "-+", nil, l{tokX}},
		{Tok("X"), "--", nil, nil}, // the first one of that name is a parser's
		{Tok("e"), "--", nil, nil},
		{Tok("none"), "--", nil, nil},
		{Tok(""), "--", nil, nil},
		{api.Node{Kind: api.KTok, Name: "N", Subs: []api.Node{Seq()}}, "--", nil, l{tokN}},
		{api.Node{Kind: api.KTok, Name: "E", Text: "x", Subs: []api.Node{Tok("N")}}, "-+", nil, l{tokE}},
	}
}

// P5.1, P5.2: nodes of each kind, as bodies of rules of each sort.
func TestNodes(t *testing.T) {
	g := known()
	if s := marks(nulls.Empty(g)); s != "+-+-+-+-+-++++" {
		t.Fatal(s)
	}
	for _, c := range cases() {
		for sort := api.SParser; sort <= strange+1; sort++ {
			which, reached := 1, c.other
			if sort == api.SParser {
				which, reached = 0, c.parser
			}
			g := known()
			last := len(g.Rules)
			g.Rules = append(g.Rules, Rule(sort, "last", c.n))
			want := c.in[which] == '+'
			if nulls.Empty(g)[last] != want || nulls.May(g, last, c.n) != want {
				t.Errorf("%v in a rule of sort %d: %t", c.n, sort, !want)
			}
			row := make([]bool, last+1)
			for _, to := range reached { // none of these reaches anything
				row[to] = true
			}
			if l := nulls.Reach(g)[last]; !slices.Equal(l, row) {
				t.Errorf("%v in a rule of sort %d reaches %s, not %s", c.n, sort, marks(l), marks(row))
			}
		}
	}
}

// P5.1: a node is looked at as one of that rule, whether it is in its body or not; of no rule none may be empty.
func TestMay(t *testing.T) {
	g := known()
	for i, r := range g.Rules {
		for _, c := range cases() {
			want := c.in[1] == '+'
			if r.Sort == api.SParser {
				want = c.in[0] == '+'
			}
			if nulls.May(g, i, c.n) != want {
				t.Errorf("May(%d, %v): %t", i, c.n, !want)
			}
		}
	}
	for _, i := range []int{-1, -2, len(g.Rules), len(g.Rules) + 1, math.MaxInt, math.MinInt, math.MaxInt32, math.MinInt32} {
		for _, c := range cases() {
			if nulls.May(g, i, c.n) || nulls.May(api.Grammar{}, i, c.n) {
				t.Errorf("May(%d, %v)", i, c.n)
			}
		}
	}
	if nulls.May(api.Grammar{}, 0, Seq()) || nulls.May(Grammar(), 0, Opt()) {
		t.Error("May of no rules")
	}
	whole := api.Grammar{Rules: g.Rules[:1:1]} // of rules that are there behind those handed in nothing is known
	if nulls.May(whole, 1, Seq()) || nulls.May(whole, 0, Ref("X")) || !nulls.May(whole, 0, Ref("e")) {
		t.Error("May of fewer rules")
	}
}

// P5.1, P5.3: rules that may be empty only if they may be so are not.
func TestFewest(t *testing.T) {
	for _, c := range []struct {
		g            api.Grammar
		empty, reach string
	}{
		{api.Grammar{}, "", ""},
		{Grammar(), "", ""},
		{Grammar(Parser("a", Ref("a"))), "-", "+"},
		{Grammar(Parser("a", Seq(Ref("a"), Ref("a")))), "-", "+"},
		{Grammar(Parser("a", Plus(Ref("a")))), "-", "+"},
		{Grammar(Parser("a", Alts(Ref("a"), Tok("B")))), "-", "+"},
		{Grammar(Parser("a", Alts(Ref("a"), Seq()))), "+", "+"},
		{Grammar(Parser("a", Seq(Ref("a"), Opt(Ref("a"))))), "-", "+"},
		{Grammar(Parser("a", Opt(Ref("a")))), "+", "+"},
		{Grammar(Token("A", Tok("A"))), "-", "+"},
		{Grammar(Token("A", Alts(Tok("A"), Lit("")))), "+", "+"},
		{Grammar(Parser("a", Tok("a"))), "-", "-"},
		{Grammar(Token("A", Ref("A"))), "-", "-"},
		{Grammar(Parser("a", Ref("b")), Parser("b", Ref("a"))), "--", "++ ++"},
		{Grammar(Parser("a", Alts(Ref("b"), Seq())), Parser("b", Ref("a"))), "++", "++ ++"},
		{Grammar(Parser("a", Ref("b")), Parser("b", Alts(Ref("a"), Opt(Tok("C"))))), "++", "++ ++"},
		{Grammar(Parser("a", Seq(Ref("b"), Ref("c"))), Parser("b", Seq()), Parser("c", Seq(Ref("b"), Tok("D")))), "-+-", "-++ --- -+-"},
		{Grammar(Parser("a", Seq(Ref("c"), Ref("b"))), Parser("b", Seq()), Parser("c", Seq(Ref("b"), Tok("D"), Ref("a")))), "-+-", "-++ --- -+-"},
		{Grammar(Parser("a", Seq(Tok("D"), Ref("b"))), Parser("b", Ref("a"))), "--", "-- +-"},
		{Grammar(Parser("a", Seq(Ref("b"), Ref("c"))), Parser("b", Opt(Tok("B"))), Parser("c", Ref("a"))), "-+-", "+++ --- +++"},
		{Grammar(Parser("a", Ref("b")), Parser("b", Ref("c")), Parser("c", Ref("d")), Parser("d", Seq())), "++++", "-+++ --++ ---+ ----"},
		{Grammar(Parser("d", Seq()), Parser("c", Ref("d")), Parser("b", Ref("c")), Parser("a", Ref("b"))), "++++", "---- +--- ++-- +++-"},
		{Grammar(Parser("a", Ref("b")), Parser("b", Ref("c")), Parser("c", Ref("a")), Parser("d", Ref("b"))), "----", "+++- +++- +++- +++-"},
		{Grammar(Parser("a", Ref("b")), Token("B", Tok("C")), Parser("b", Tok("B")), Token("C", Lit(""))), "-+-+", "--+- ---+ ---- ----"},
		{Grammar(Token("A", Seq(Tok("F"), Tok("S"))), Rule(api.SFragment, "F", Opt(Lit("x"))), Rule(api.SSkip, "S", Star(Tok("A")))), "+++", "+++ --- +++"},
		{Grammar(Parser("a", Tok("B")), Parser("a", Seq()), Parser("b", Ref("a")), Parser("b", Ref("a"))), "-+--", "---- ---- +--- +---"},
		{Grammar(Parser("a", Ref("b")), Token("b", Ref("a")), Parser("b", Seq())), "--+", "--- +-- ---"},
	} {
		told(t, c.g, c.empty, c.reach)
	}
}

// P5.2: what stands behind such that may be empty only as another rule may is reached, however late that is known.
func TestReachedBehindEmpty(t *testing.T) {
	g := Grammar(
		Parser("a", Seq(Ref("b"), Ref("z"))),
		Parser("b", Seq(Ref("c"), Ref("c"))),
		Parser("c", Alts(Tok("D"), Seq(Ref("d"), Ref("y")))),
		Parser("d", Opt(Tok("D"))),
		Parser("y", Plus(Ref("d"))),
		Parser("z", Seq(Tok("Z"), Ref("a"))),
	)
	told(t, g, "-++++-", "-+++++ --+++- ---++- ------ ---+-- ------")
	slices.Reverse(g.Rules)
	told(t, g, "-++++-", "------ --+--- ------ -++--- -+++-- +++++-")
}

// chain is so many rules, each of which names the one behind it; the last one has that body.
func chain(count int, last api.Node) []api.Rule {
	var l []api.Rule
	for i := range count {
		l = append(l, Parser("r"+strconv.Itoa(i), Seq(Ref("r"+strconv.Itoa(i+1)), Opt(Tok("A")))))
	}
	l[count-1].Body = last
	return l
}

// P5.1, P5.2: as many rules as may be, and more, in both orders.
func TestChains(t *testing.T) {
	for _, count := range []int{1, 2, api.MaxRules, api.MaxRules + 1, 500} {
		for _, last := range []api.Node{Seq(), Tok("A"), Ref("r0")} {
			g := Grammar(chain(count, last)...)
			held(t, g, last)
			slices.Reverse(g.Rules)
			held(t, g, last)
		}
	}
}

// held holds what is told of a chain against what it is.
func held(t *testing.T, g api.Grammar, last api.Node) {
	t.Helper()
	count := len(g.Rules)
	empty, reach := nulls.Empty(g), nulls.Reach(g)
	if len(empty) != count || len(reach) != count {
		t.Fatalf("of %d rules: %d, %d", count, len(empty), len(reach))
	}
	for i, x := range empty {
		if x != (last.Kind == api.KSeq) {
			t.Fatalf("rule %d of %d: %t", i, count, x)
		}
	}
	for i := range count {
		row := reach[nulls.Find(g, "r"+strconv.Itoa(i))]
		for j := range count {
			at := j
			if g.Rules[0].Name != "r0" {
				at = count - 1 - j
			}
			if row[at] != (j > i || last.Kind == api.KRef) {
				t.Fatalf("rule %d of %d, to %d: %t", i, count, j, row[at])
			}
		}
	}
}

// P5.1, P5.2: all limits at once: rules, their nodes, how deep these are, alternatives.
func TestLimits(t *testing.T) {
	var rules []api.Rule
	for i := range api.MaxRules {
		body := Ref("r" + strconv.Itoa(i+1))
		for range api.MaxDeep - 2 {
			body = Plus(body)
		}
		many := slices.Repeat([]api.Node{Opt(Ref("r" + strconv.Itoa(i+1)))}, (api.MaxNodes-api.MaxDeep)/2)
		rules = append(rules, Parser("r"+strconv.Itoa(i), Seq(append(many, body)...)))
	}
	for _, last := range []api.Node{Tok("A"), Star(Tok("A"))} {
		rules[api.MaxRules-1].Body = Alts(append(slices.Repeat([]api.Node{Tok("A")}, api.MaxAlts-1), last)...)
		g := Grammar(rules...)
		if l := nulls.Empty(g); len(l) != api.MaxRules || slices.Contains(l, last.Kind == api.KTok) {
			t.Error(last.Kind, marks(l))
		}
		for i, l := range nulls.Reach(g) {
			if marks(l) != strings.Repeat("-", i+1)+strings.Repeat("+", api.MaxRules-1-i) {
				t.Error(last.Kind, i, marks(l))
			}
		}
	}
}

// P5.1, P5.2: nodes within nodes, as many levels as anything is promised of.
func TestDeepNodes(t *testing.T) {
	const levels = 1<<16 - 2
	for _, k := range []api.Kind{api.KAlts, api.KSeq, api.KPlus, api.KOpt, api.KStar, api.KPred} {
		always := k == api.KOpt || k == api.KStar || k == api.KPred
		g := Grammar(Parser("a", Seq()), Parser("b", Seq()), Parser("c", Seq()), Parser("e", Seq()), Parser("n", Tok("N")))
		for i, name := range []string{"e", "n", "c"} {
			body := Ref(name)
			for range levels {
				body = Node(k, body)
			}
			g.Rules[i].Body = body
		}
		want := "+--+-"
		reach := "---+- ----+ --+-- ----- -----"
		if always {
			want = "++++-"
		}
		told(t, g, want, reach)
	}
}

// R1: of a node that is within itself each call ends; the other rules are told all the same.
func TestRings(t *testing.T) {
	for i, n := range Rings(Ref("e")) {
		for _, sort := range []api.Sort{api.SParser, api.SToken} {
			g := Grammar(Parser("e", Seq()), Rule(sort, "a", n), Parser("b", Seq(Ref("e"), Alts(Tok("C"), Ref("e")))))
			if s := marks(nulls.Empty(g)); s != "+-+" {
				t.Error(i, s)
			}
			if s := table(nulls.Reach(g)); s != "--- --- +--" {
				t.Error(i, s)
			}
			if nulls.May(g, 2, n) || nulls.May(g, 1, n) || !nulls.May(g, 1, Ref("e")) {
				t.Error(i)
			}
			if b := g.Rules[1].Body; b.Kind != n.Kind || len(b.Subs) != len(n.Subs) {
				t.Error(i, "is another one")
			}
		}
	}
}

// copied has no memory with a node.
func copied(n api.Node) api.Node {
	n.Set = slices.Clone(n.Set)
	n.Subs = slices.Clone(n.Subs)
	for i, s := range n.Subs {
		n.Subs[i] = copied(s)
	}
	return n
}

// R1, R4, R5: nothing that is handed in changes, lists are apart and have no room behind, and the same call answers the same, whatever became of an answer.
func TestApart(t *testing.T) {
	g := known()
	for _, c := range cases() {
		g.Rules = append(g.Rules, Rule(api.SParser, "p", c.n), Rule(api.SToken, "T", c.n))
	}
	was := Grammar(slices.Clone(g.Rules)...)
	for i, r := range was.Rules {
		was.Rules[i].Body = copied(r.Body)
	}
	empty, reach := nulls.Empty(g), nulls.Reach(g)
	wantEmpty, wantReach := marks(empty), table(reach)
	if cap(empty) != len(empty) || cap(reach) != len(reach) {
		t.Error("room behind a list")
	}
	for i, row := range reach {
		if len(row) != len(g.Rules) || cap(row) != len(row) {
			t.Errorf("row %d: %d, room for %d", i, len(row), cap(row))
		}
		for j := range row {
			row[j] = !row[j]
		}
		for j := range reach {
			if (marks(reach[j]) != strings.Split(wantReach, " ")[j]) != (j <= i) {
				t.Fatalf("rows %d and %d are not apart", i, j)
			}
		}
	}
	for i := range empty {
		empty[i] = !empty[i]
	}
	if marks(nulls.Empty(g)) != wantEmpty || table(nulls.Reach(g)) != wantReach {
		t.Error("another answer of the same")
	}
	nulls.Find(g, "e")
	nulls.May(g, 0, g.Rules[0].Body)
	if !reflect.DeepEqual(g, was) {
		t.Error("what was handed in is another one")
	}
}
