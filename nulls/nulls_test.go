package nulls_test

import (
	"math"
	"reflect"
	"slices"
	"strconv"
	"strings"
	"testing"

	"harbinger/api"
	"harbinger/grams"
	"harbinger/nulls"
)

// strange is a sort that is none of the four: no parser's.
const strange = api.SSkip + 1

func node(k api.Kind, subs ...api.Node) api.Node {
	return api.Node{Kind: k, Subs: subs}
}

func alts(subs ...api.Node) api.Node { return node(api.KAlts, subs...) }
func seq(subs ...api.Node) api.Node  { return node(api.KSeq, subs...) }
func opt(subs ...api.Node) api.Node  { return node(api.KOpt, subs...) }
func star(subs ...api.Node) api.Node { return node(api.KStar, subs...) }
func plus(subs ...api.Node) api.Node { return node(api.KPlus, subs...) }
func pred(subs ...api.Node) api.Node { return node(api.KPred, subs...) }
func ref(name string) api.Node       { return api.Node{Kind: api.KRef, Name: name} }
func tok(name string) api.Node       { return api.Node{Kind: api.KTok, Name: name} }
func lit(text string) api.Node       { return api.Node{Kind: api.KLit, Text: text} }

func set(ends ...rune) api.Node {
	n := api.Node{Kind: api.KSet}
	for ; len(ends) > 0; ends = ends[2:] {
		n.Set = append(n.Set, api.Range{Low: ends[0], High: ends[1]})
	}
	return n
}

func rule(sort api.Sort, name string, body api.Node) api.Rule {
	return api.Rule{Name: name, Sort: sort, Body: body}
}

func parser(name string, body api.Node) api.Rule { return rule(api.SParser, name, body) }
func token(name string, body api.Node) api.Rule  { return rule(api.SToken, name, body) }

func grammar(rules ...api.Rule) api.Grammar {
	return api.Grammar{Name: "G", Options: api.Options{Bound: 2, States: 256}, Rules: rules}
}

// marks are written as a text: a + for each that holds.
func marks(l []bool) string {
	var b strings.Builder
	for _, x := range l {
		if x {
			b.WriteByte('+')
		} else {
			b.WriteByte('-')
		}
	}
	return b.String()
}

// table is a row of marks a rule, a blank between each two.
func table(rows [][]bool) string {
	var l []string
	for _, r := range rows {
		l = append(l, marks(r))
	}
	return strings.Join(l, " ")
}

// told holds all that is told of a grammar's rules against what is awaited, and what follows.
func told(t *testing.T, g api.Grammar, empty, reach string) {
	t.Helper()
	if s := marks(nulls.Empty(g)); s != empty {
		t.Errorf("Empty(%v): %s, not %s", g.Rules, s, empty)
	}
	if s := table(nulls.Reach(g)); s != reach {
		t.Errorf("Reach(%v): %s, not %s", g.Rules, s, reach)
	}
	for i, r := range g.Rules {
		if nulls.May(g, i, r.Body) != (empty[i] == '+') {
			t.Errorf("May(%v, %d): the body is not as the rule", g.Rules, i)
		}
	}
}

// P5.1, P5.2: the chapter's example.
func TestExample(t *testing.T) {
	g := grammar(parser("a", alts(seq(opt(ref("b")), tok("C")), seq())), parser("b", seq(ref("a"), tok("D"))))
	told(t, g, "+-", "++ ++")
	if nulls.Find(g, "a") != 0 || nulls.Find(g, "b") != 1 || nulls.Find(g, "C") != -1 {
		t.Error("Find")
	}
}

// P5.1, P5.2: a grammar as one writes it.
func TestOrdinary(t *testing.T) {
	g, fault := grams.Read(`grammar Lists;
list   : head? (item (COMMA item)*)? tail ;
head   : (NAME EQUALS) => NAME EQUALS | ;
item   : NAME | number | OPEN list CLOSE ;
number : sign* DIGITS ;
sign   : PLUS | MINUS | blank+ ;
blank  : () | (sign) => DIGITS ;
tail   : head blank (number | tail)? ;
NAME   : [a-z] ([a-z] | Digit)* ;
DIGITS : Digit+ Exponent? ;
fragment Digit    : '0'..'9' ;
fragment Exponent : Mark? ('e' Digit+)? ;
fragment Mark     : ~[e] | ;
skip GAP          : (' ' | Mark)* ;
`)
	if fault.E != api.OK {
		t.Fatal(fault)
	}
	told(t, g, "++--+++---+++", "-++++++------ ------------- ---+++------- ----++------- ----++------- ----++------- -+-++++------ "+
		"------------- ---------+--- ------------- -----------+- ------------- -----------+-")
	if at := nulls.Find(g, "Mark"); at != 11 {
		t.Errorf("Find: %d", at)
	}
}

// P5.1: the first rule of a name, of whichever sort; none.
func TestFind(t *testing.T) {
	g := grammar(token("A", lit("a")), parser("b", seq()), parser("A", seq()), rule(strange, "b", seq()), rule(api.SSkip, "", seq()), rule(api.SFragment, "é\xff", seq()), parser("", seq()), token("Ab", seq()))
	for name, want := range map[string]int{"A": 0, "b": 1, "": 4, "é\xff": 5, "Ab": 7, "a": -1, "B": -1, "é": -1, "AA": -1, "A ": -1, "\x00": -1} {
		if at := nulls.Find(g, name); at != want {
			t.Errorf("Find(%q): %d", name, at)
		}
	}
	g.Rules = g.Rules[:4]
	for _, g := range []api.Grammar{{}, grammar(), {Name: "a", Rules: []api.Rule{}}, g} {
		for _, name := range []string{"", "a", "G"} {
			if at := nulls.Find(g, name); at != -1 {
				t.Errorf("Find(%q): %d of %d rules", name, at, len(g.Rules))
			}
		}
	}
}

// known are rules of each sort that may be empty, and that may not; and names that the first rule of another sort has.
func known() api.Grammar {
	return grammar(
		parser("e", seq()), parser("n", tok("N")),
		token("E", lit("")), token("N", lit("x")),
		rule(api.SFragment, "FE", seq()), rule(api.SFragment, "FN", set('a', 'b')),
		rule(api.SSkip, "SE", opt(lit("x"))), rule(api.SSkip, "SN", alts()),
		rule(strange, "ZE", star()), rule(strange, "ZN", plus()),
		token("x", seq()), parser("x", seq()), parser("X", seq()), token("X", seq()),
	)
}

// places of those rules, by name.
const (
	e = iota
	n
	tokE
	tokN
	fragE
	fragN
	skipE
	skipN
	strangeE
	strangeN
	tokX
	_
	parserX
)

// cases are nodes, whether each may be empty, and which of the known rules are reached by it at once, if a rule's body is that; in a parser's rule, and in another one.
func cases() []struct {
	n      api.Node
	in     string // of a parser's rule, and of another one: + if it may be empty
	parser []int
	other  []int
} {
	type l = []int
	return []struct {
		n      api.Node
		in     string
		parser []int
		other  []int
	}{
		{seq(), "++", nil, nil},
		{seq(ref("e"), opt(ref("n")), ref("e"), lit("")), "++", l{e, n}, l{e, n}},
		{seq(ref("n"), ref("e")), "--", l{n}, l{n}},
		{seq(ref("e"), ref("n"), tok("E")), "--", l{e, n}, l{e, n}},
		{seq(opt(), set(), ref("e")), "--", nil, nil},
		{seq(lit("a"), ref("e")), "--", nil, nil},
		{seq(tok("E"), ref("e")), "-+", nil, l{tokE, e}},
		{seq(pred(ref("n")), ref("e")), "++", l{n, e}, l{n, e}},
		{seq(ref("e"), alts(), ref("n")), "--", l{e}, l{e}},
		{seq(ref("e"), plus(ref("n"), ref("e")), ref("n"), ref("e")), "--", l{e, n}, l{e, n}},
		{seq(ref("none"), ref("e")), "--", nil, nil},
		{seq(seq(seq(), ref("e")), seq(ref("n"), tok("E")), ref("x")), "--", l{e, n}, l{e, n}},
		{seq(seq()), "++", nil, nil},
		{alts(), "--", nil, nil},
		{alts(tok("E"), ref("n")), "-+", l{n}, l{tokE, n}},
		{alts(ref("n"), ref("e")), "++", l{e, n}, l{e, n}},
		{alts(ref("e"), ref("n")), "++", l{e, n}, l{e, n}},
		{alts(set('a', 'a'), lit(""), lit("b")), "++", nil, nil},
		{alts(lit("a"), seq(ref("n"), ref("e"))), "--", l{n}, l{n}},
		{alts(opt()), "++", nil, nil},
		{plus(), "--", nil, nil},
		{plus(ref("n")), "--", l{n}, l{n}},
		{plus(ref("e")), "++", l{e}, l{e}},
		{plus(ref("n"), ref("e")), "++", l{e, n}, l{e, n}},
		{plus(lit("a"), ref("n"), lit("b")), "--", l{n}, l{n}},
		{opt(), "++", nil, nil},
		{opt(ref("n")), "++", l{n}, l{n}},
		{opt(ref("n"), ref("e")), "++", l{e, n}, l{e, n}},
		{star(), "++", nil, nil},
		{star(ref("n")), "++", l{n}, l{n}},
		{star(seq(lit("a"), ref("e")), ref("n")), "++", l{n}, l{n}},
		{pred(), "++", nil, nil},
		{pred(ref("n")), "++", l{n}, l{n}},
		{pred(seq(tok("E"), ref("n")), ref("e")), "++", l{e}, l{tokE, n, e}},
		{lit(""), "++", nil, nil},
		{lit("a"), "--", nil, nil},
		{lit("\x00"), "--", nil, nil},
		{lit("\xff"), "--", nil, nil},
		{api.Node{Kind: api.KLit, Name: "e", Subs: []api.Node{ref("n")}}, "++", nil, nil},
		{api.Node{Kind: api.KLit, Text: "a", Subs: []api.Node{ref("e")}}, "--", nil, nil},
		{set(), "--", nil, nil},
		{set('b', 'a'), "--", nil, nil},
		{set('a', 'z'), "--", nil, nil},
		{api.Node{Kind: api.KSet, Name: "e", Subs: []api.Node{ref("e")}}, "--", nil, nil},
		{node(api.KSet+1, ref("e")), "--", nil, nil},
		{api.Node{Kind: api.KSet + 1, Name: "e"}, "--", nil, nil},
		{node(math.MaxUint8, seq()), "--", nil, nil},
		{api.Node{Kind: api.KSeq, Name: "n", Text: "n", Set: set('a', 'b').Set}, "++", nil, nil},
		{api.Node{Kind: api.KOpt, Name: "e"}, "++", nil, nil},
		{ref("e"), "++", l{e}, l{e}},
		{ref("n"), "--", l{n}, l{n}},
		{api.Node{Kind: api.KRef, Name: "e", Text: "a", Subs: []api.Node{tok("N"), ref("n")}}, "++", l{e}, l{e}},
		{api.Node{Kind: api.KRef, Name: "n", Subs: []api.Node{ref("e")}}, "--", l{n}, l{n}},
		{ref("none"), "--", nil, nil},
		{ref(""), "--", nil, nil},
		{ref("E"), "--", nil, nil},
		{ref("FE"), "--", nil, nil},
		{ref("SE"), "--", nil, nil},
		{ref("ZE"), "--", nil, nil},
		{ref("x"), "--", nil, nil}, // the first one of that name is a token's
		{ref("X"), "++", l{parserX}, l{parserX}},
		{tok("E"), "-+", nil, l{tokE}},
		{tok("N"), "--", nil, l{tokN}},
		{tok("FE"), "-+", nil, l{fragE}},
		{tok("FN"), "--", nil, l{fragN}},
		{tok("SE"), "-+", nil, l{skipE}},
		{tok("SN"), "--", nil, l{skipN}},
		{tok("ZE"), "-+", nil, l{strangeE}},
		{tok("ZN"), "--", nil, l{strangeN}},
		{tok("x"), "-+", nil, l{tokX}},
		{tok("X"), "--", nil, nil}, // the first one of that name is a parser's
		{tok("e"), "--", nil, nil},
		{tok("none"), "--", nil, nil},
		{tok(""), "--", nil, nil},
		{api.Node{Kind: api.KTok, Name: "N", Subs: []api.Node{seq()}}, "--", nil, l{tokN}},
		{api.Node{Kind: api.KTok, Name: "E", Text: "x", Subs: []api.Node{tok("N")}}, "-+", nil, l{tokE}},
	}
}

// P5.1, P5.2: nodes of each kind, as bodies of rules of each sort.
func TestNodes(t *testing.T) {
	g := known()
	if s := marks(nulls.Empty(g)); s != "+-+-+-+-+-++++" {
		t.Fatal(s)
	}
	for _, c := range cases() {
		for sort := api.SParser; sort <= strange+1; sort++ {
			which, reached := 1, c.other
			if sort == api.SParser {
				which, reached = 0, c.parser
			}
			g := known()
			last := len(g.Rules)
			g.Rules = append(g.Rules, rule(sort, "last", c.n))
			want := c.in[which] == '+'
			if nulls.Empty(g)[last] != want || nulls.May(g, last, c.n) != want {
				t.Errorf("%v in a rule of sort %d: %t", c.n, sort, !want)
			}
			row := make([]bool, last+1)
			for _, to := range reached { // none of these reaches anything
				row[to] = true
			}
			if l := nulls.Reach(g)[last]; !slices.Equal(l, row) {
				t.Errorf("%v in a rule of sort %d reaches %s, not %s", c.n, sort, marks(l), marks(row))
			}
		}
	}
}

// P5.1: a node is looked at as one of that rule, whether it is in its body or not; of no rule none may be empty.
func TestMay(t *testing.T) {
	g := known()
	for i, r := range g.Rules {
		for _, c := range cases() {
			want := c.in[1] == '+'
			if r.Sort == api.SParser {
				want = c.in[0] == '+'
			}
			if nulls.May(g, i, c.n) != want {
				t.Errorf("May(%d, %v): %t", i, c.n, !want)
			}
		}
	}
	for _, i := range []int{-1, -2, len(g.Rules), len(g.Rules) + 1, math.MaxInt, math.MinInt, math.MaxInt32, math.MinInt32} {
		for _, c := range cases() {
			if nulls.May(g, i, c.n) || nulls.May(api.Grammar{}, i, c.n) {
				t.Errorf("May(%d, %v)", i, c.n)
			}
		}
	}
	if nulls.May(api.Grammar{}, 0, seq()) || nulls.May(grammar(), 0, opt()) {
		t.Error("May of no rules")
	}
	whole := api.Grammar{Rules: g.Rules[:1:1]} // of rules that are there behind those handed in nothing is known
	if nulls.May(whole, 1, seq()) || nulls.May(whole, 0, ref("X")) || !nulls.May(whole, 0, ref("e")) {
		t.Error("May of fewer rules")
	}
}

// P5.1, P5.3: rules that may be empty only if they may be so are not.
func TestFewest(t *testing.T) {
	for _, c := range []struct {
		g            api.Grammar
		empty, reach string
	}{
		{api.Grammar{}, "", ""},
		{grammar(), "", ""},
		{grammar(parser("a", ref("a"))), "-", "+"},
		{grammar(parser("a", seq(ref("a"), ref("a")))), "-", "+"},
		{grammar(parser("a", plus(ref("a")))), "-", "+"},
		{grammar(parser("a", alts(ref("a"), tok("B")))), "-", "+"},
		{grammar(parser("a", alts(ref("a"), seq()))), "+", "+"},
		{grammar(parser("a", seq(ref("a"), opt(ref("a"))))), "-", "+"},
		{grammar(parser("a", opt(ref("a")))), "+", "+"},
		{grammar(token("A", tok("A"))), "-", "+"},
		{grammar(token("A", alts(tok("A"), lit("")))), "+", "+"},
		{grammar(parser("a", tok("a"))), "-", "-"},
		{grammar(token("A", ref("A"))), "-", "-"},
		{grammar(parser("a", ref("b")), parser("b", ref("a"))), "--", "++ ++"},
		{grammar(parser("a", alts(ref("b"), seq())), parser("b", ref("a"))), "++", "++ ++"},
		{grammar(parser("a", ref("b")), parser("b", alts(ref("a"), opt(tok("C"))))), "++", "++ ++"},
		{grammar(parser("a", seq(ref("b"), ref("c"))), parser("b", seq()), parser("c", seq(ref("b"), tok("D")))), "-+-", "-++ --- -+-"},
		{grammar(parser("a", seq(ref("c"), ref("b"))), parser("b", seq()), parser("c", seq(ref("b"), tok("D"), ref("a")))), "-+-", "-++ --- -+-"},
		{grammar(parser("a", seq(tok("D"), ref("b"))), parser("b", ref("a"))), "--", "-- +-"},
		{grammar(parser("a", seq(ref("b"), ref("c"))), parser("b", opt(tok("B"))), parser("c", ref("a"))), "-+-", "+++ --- +++"},
		{grammar(parser("a", ref("b")), parser("b", ref("c")), parser("c", ref("d")), parser("d", seq())), "++++", "-+++ --++ ---+ ----"},
		{grammar(parser("d", seq()), parser("c", ref("d")), parser("b", ref("c")), parser("a", ref("b"))), "++++", "---- +--- ++-- +++-"},
		{grammar(parser("a", ref("b")), parser("b", ref("c")), parser("c", ref("a")), parser("d", ref("b"))), "----", "+++- +++- +++- +++-"},
		{grammar(parser("a", ref("b")), token("B", tok("C")), parser("b", tok("B")), token("C", lit(""))), "-+-+", "--+- ---+ ---- ----"},
		{grammar(token("A", seq(tok("F"), tok("S"))), rule(api.SFragment, "F", opt(lit("x"))), rule(api.SSkip, "S", star(tok("A")))), "+++", "+++ --- +++"},
		{grammar(parser("a", tok("B")), parser("a", seq()), parser("b", ref("a")), parser("b", ref("a"))), "-+--", "---- ---- +--- +---"},
		{grammar(parser("a", ref("b")), token("b", ref("a")), parser("b", seq())), "--+", "--- +-- ---"},
	} {
		told(t, c.g, c.empty, c.reach)
	}
}

// P5.2: what stands behind such that may be empty only as another rule may is reached, however late that is known.
func TestReachedBehindEmpty(t *testing.T) {
	g := grammar(
		parser("a", seq(ref("b"), ref("z"))),
		parser("b", seq(ref("c"), ref("c"))),
		parser("c", alts(tok("D"), seq(ref("d"), ref("y")))),
		parser("d", opt(tok("D"))),
		parser("y", plus(ref("d"))),
		parser("z", seq(tok("Z"), ref("a"))),
	)
	told(t, g, "-++++-", "-+++++ --+++- ---++- ------ ---+-- ------")
	slices.Reverse(g.Rules)
	told(t, g, "-++++-", "------ --+--- ------ -++--- -+++-- +++++-")
}

// chain is so many rules, each of which names the one behind it; the last one has that body.
func chain(count int, last api.Node) []api.Rule {
	var l []api.Rule
	for i := range count {
		l = append(l, parser("r"+strconv.Itoa(i), seq(ref("r"+strconv.Itoa(i+1)), opt(tok("A")))))
	}
	l[count-1].Body = last
	return l
}

// P5.1, P5.2: as many rules as may be, and more, in both orders.
func TestChains(t *testing.T) {
	for _, count := range []int{1, 2, api.MaxRules, api.MaxRules + 1, 500} {
		for _, last := range []api.Node{seq(), tok("A"), ref("r0")} {
			g := grammar(chain(count, last)...)
			held(t, g, last)
			slices.Reverse(g.Rules)
			held(t, g, last)
		}
	}
}

// held holds what is told of a chain against what it is.
func held(t *testing.T, g api.Grammar, last api.Node) {
	t.Helper()
	count := len(g.Rules)
	empty, reach := nulls.Empty(g), nulls.Reach(g)
	if len(empty) != count || len(reach) != count {
		t.Fatalf("of %d rules: %d, %d", count, len(empty), len(reach))
	}
	for i, x := range empty {
		if x != (last.Kind == api.KSeq) {
			t.Fatalf("rule %d of %d: %t", i, count, x)
		}
	}
	for i := range count {
		row := reach[nulls.Find(g, "r"+strconv.Itoa(i))]
		for j := range count {
			at := j
			if g.Rules[0].Name != "r0" {
				at = count - 1 - j
			}
			if row[at] != (j > i || last.Kind == api.KRef) {
				t.Fatalf("rule %d of %d, to %d: %t", i, count, j, row[at])
			}
		}
	}
}

// P5.1, P5.2: all limits at once: rules, their nodes, how deep these are, alternatives.
func TestLimits(t *testing.T) {
	var rules []api.Rule
	for i := range api.MaxRules {
		body := ref("r" + strconv.Itoa(i+1))
		for range api.MaxDeep - 2 {
			body = plus(body)
		}
		many := slices.Repeat([]api.Node{opt(ref("r" + strconv.Itoa(i+1)))}, (api.MaxNodes-api.MaxDeep)/2)
		rules = append(rules, parser("r"+strconv.Itoa(i), seq(append(many, body)...)))
	}
	for _, last := range []api.Node{tok("A"), star(tok("A"))} {
		rules[api.MaxRules-1].Body = alts(append(slices.Repeat([]api.Node{tok("A")}, api.MaxAlts-1), last)...)
		g := grammar(rules...)
		if l := nulls.Empty(g); len(l) != api.MaxRules || slices.Contains(l, last.Kind == api.KTok) {
			t.Error(last.Kind, marks(l))
		}
		for i, l := range nulls.Reach(g) {
			if marks(l) != strings.Repeat("-", i+1)+strings.Repeat("+", api.MaxRules-1-i) {
				t.Error(last.Kind, i, marks(l))
			}
		}
	}
}

// P5.1, P5.2: nodes within nodes, as many levels as anything is promised of.
func TestDeepNodes(t *testing.T) {
	const levels = 1<<16 - 2
	for _, k := range []api.Kind{api.KAlts, api.KSeq, api.KPlus, api.KOpt, api.KStar, api.KPred} {
		always := k == api.KOpt || k == api.KStar || k == api.KPred
		g := grammar(parser("a", seq()), parser("b", seq()), parser("c", seq()), parser("e", seq()), parser("n", tok("N")))
		for i, name := range []string{"e", "n", "c"} {
			body := ref(name)
			for range levels {
				body = node(k, body)
			}
			g.Rules[i].Body = body
		}
		want := "+--+-"
		reach := "---+- ----+ --+-- ----- -----"
		if always {
			want = "++++-"
		}
		told(t, g, want, reach)
	}
}

// rings are nodes that are within themselves.
func rings() []api.Node {
	var all []api.Node
	for k := api.KAlts; k <= api.KSet+1; k++ {
		one := node(k, ref("e"))
		one.Subs[0] = one
		two := node(k, node(api.KSeq, ref("e"), ref("e")), ref("e"), ref("e"))
		two.Subs[0].Subs[1], two.Subs[1], two.Subs[2] = two, two, two
		all = append(all, one, two, opt(ref("e"), one))
	}
	return all
}

// R1: of a node that is within itself each call ends; the other rules are told all the same.
func TestRings(t *testing.T) {
	for i, n := range rings() {
		for _, sort := range []api.Sort{api.SParser, api.SToken} {
			g := grammar(parser("e", seq()), rule(sort, "a", n), parser("b", seq(ref("e"), alts(tok("C"), ref("e")))))
			if s := marks(nulls.Empty(g)); s != "+-+" {
				t.Error(i, s)
			}
			if s := table(nulls.Reach(g)); s != "--- --- +--" {
				t.Error(i, s)
			}
			if nulls.May(g, 2, n) || nulls.May(g, 1, n) || !nulls.May(g, 1, ref("e")) {
				t.Error(i)
			}
			if b := g.Rules[1].Body; b.Kind != n.Kind || len(b.Subs) != len(n.Subs) {
				t.Error(i, "is another one")
			}
		}
	}
}

// copied has no memory with a node.
func copied(n api.Node) api.Node {
	n.Set = slices.Clone(n.Set)
	n.Subs = slices.Clone(n.Subs)
	for i, s := range n.Subs {
		n.Subs[i] = copied(s)
	}
	return n
}

// R1, R4, R5: nothing that is handed in changes, lists are apart and have no room behind, and the same call answers the same, whatever became of an answer.
func TestApart(t *testing.T) {
	g := known()
	for _, c := range cases() {
		g.Rules = append(g.Rules, rule(api.SParser, "p", c.n), rule(api.SToken, "T", c.n))
	}
	was := grammar(slices.Clone(g.Rules)...)
	for i, r := range was.Rules {
		was.Rules[i].Body = copied(r.Body)
	}
	empty, reach := nulls.Empty(g), nulls.Reach(g)
	wantEmpty, wantReach := marks(empty), table(reach)
	if cap(empty) != len(empty) || cap(reach) != len(reach) {
		t.Error("room behind a list")
	}
	for i, row := range reach {
		if len(row) != len(g.Rules) || cap(row) != len(row) {
			t.Errorf("row %d: %d, room for %d", i, len(row), cap(row))
		}
		for j := range row {
			row[j] = !row[j]
		}
		for j := range reach {
			if (marks(reach[j]) != strings.Split(wantReach, " ")[j]) != (j <= i) {
				t.Fatalf("rows %d and %d are not apart", i, j)
			}
		}
	}
	for i := range empty {
		empty[i] = !empty[i]
	}
	if marks(nulls.Empty(g)) != wantEmpty || table(nulls.Reach(g)) != wantReach {
		t.Error("another answer of the same")
	}
	nulls.Find(g, "e")
	nulls.May(g, 0, g.Rules[0].Body)
	if !reflect.DeepEqual(g, was) {
		t.Error("what was handed in is another one")
	}
}
