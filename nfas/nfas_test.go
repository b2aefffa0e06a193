package nfas_test

import (
	"math"
	"reflect"
	"slices"
	"strconv"
	"strings"
	"testing"
	"unsafe"

	"harbinger/api"
	"harbinger/checks"
	"harbinger/grams"
	. "harbinger/made"
	"harbinger/nfas"
	"harbinger/nodes"
)

// strange is a sort that is none of the four: no parser's.
const strange = api.SSkip + 1

// most is how many nodes may be gone through.
const most = 65536

// whole is a grammar of a parser's rule, which is not looked at, and others.
func whole(rules ...api.Rule) api.Grammar {
	return Grammar(append([]api.Rule{Parser("s", Seq())}, rules...)...)
}

// one is a grammar of one token.
func one(body api.Node) api.Grammar {
	return whole(Token("A", body))
}

func fragment(name string, body api.Node) api.Rule {
	return Rule(api.SFragment, name, body)
}

// built is what is made of a grammar of which that may be.
func built(t *testing.T, g api.Grammar) nfas.Auto {
	t.Helper()
	a, e := nfas.Build(g)
	if e != api.OK {
		t.Fatalf("Build(%.500s): error %d", grams.Print(g), e)
	}
	return a
}

// refused holds that there is an error, and nothing beside it.
func refused(t *testing.T, g api.Grammar, want api.Errno) {
	t.Helper()
	a, e := nfas.Build(g)
	if e != want || a.Places != nil || a.First != nil || a.Kinds != 0 {
		t.Errorf("Build(%.500s): error %d, not %d, with %d places", grams.Print(g), e, want, len(a.Places))
	}
}

// line tells all of it as a text: First; of each place its Set, with ! behind if it is Last, then > and Follow; of each token but the first a / ahead of its places.
func line(a nfas.Auto) string {
	parts := []string{Numbers(a.First) + ":"}
	kind := 0
	for _, p := range a.Places {
		for ; kind < p.Kind; kind++ {
			parts = append(parts, "/")
		}
		s := strings.Trim(nodes.Text(api.Node{Kind: api.KSet, Set: p.Set}), "[]")
		if p.Last {
			s += "!"
		}
		if len(p.Follow) > 0 {
			s += ">" + Numbers(p.Follow)
		}
		parts = append(parts, s)
	}
	for ; kind+1 < a.Kinds; kind++ {
		parts = append(parts, "/")
	}
	return strings.Join(parts, " ")
}

// told holds what is made of a grammar against what is awaited.
func told(t *testing.T, g api.Grammar, want string) {
	t.Helper()
	if s := line(built(t, g)); s != want {
		t.Errorf("Build(%.1000s):\n%.1000s, not\n%.1000s", grams.Print(g), s, want)
	}
}

// P8.1: the chapter's example, number by number.
func TestExample(t *testing.T) {
	a := built(t, Read("a : A ; A : 'ab'* [x] ;"))
	want := nfas.Auto{
		Places: []nfas.Place{
			{Set: Set('a', 'a').Set, Follow: []int{1}},
			{Set: Set('b', 'b').Set, Follow: []int{0, 2}},
			{Set: Set('x', 'x').Set, Last: true},
		},
		First: []int{0, 2},
		Kinds: 1,
	}
	if !reflect.DeepEqual(a, want) {
		t.Error(a)
	}
}

// P8.1: texts of one token's rule, as one writes them.
func TestTexts(t *testing.T) {
	for _, k := range []struct{ text, want string }{
		{"'a'", "0: a!"},
		{"'ab'", "0: a>1 b!"},
		{"'a' 'b'", "0: a>1 b!"},
		{"'abca'", "0: a>1 b>2 c>3 a!"},
		{"[a-z]", "0: a-z!"},
		{"[a-z] 'b'", "0: a-z>1 b!"},
		{"[ab]", "0: ab!"}, // its ranges as they are written
		{"[cba-zc]", "0: cba-zc!"},
		{"'a'..'c'", "0: a-c!"},
		{"~[a]", "0: \\u{0}-`b-\\u{d7ff}\\u{e000}-\\u{10ffff}!"},
		{".", "0: \\u{0}-\\u{d7ff}\\u{e000}-\\u{10ffff}!"},
		{"'aé\\n\\u{10ffff}'", "0: a>1 \\u{e9}>2 \\n>3 \\u{10ffff}!"},

		{"'a' | 'b'", "0,1: a! b!"},
		{"'ab' | 'cd' | [e]", "0,2,4: a>1 b! c>3 d! e!"},
		{"('a' | 'b') ('c' | 'd')", "0,1: a>2,3 b>2,3 c! d!"},
		{"'a' | 'b' 'c' | 'd'?", ""},

		{"'a'? 'b'", "0,1: a>1 b!"},
		{"'a' 'b'?", "0: a!>1 b!"},
		{"'a'? 'b' 'c'?", "0,1: a>1 b!>2 c!"},
		{"'a'? 'b'? 'c'", "0,1,2: a>1,2 b>2 c!"},
		{"'a' 'b'? 'c'? 'd'", "0: a>1,2,3 b>2,3 c>3 d!"},
		{"'a' 'b'? 'c'?", "0: a!>1,2 b!>2 c!"},
		{"'a' () 'b'", "0: a>1 b!"},
		{"'a' (() | 'b') 'c'", "0: a>1,2 b>2 c!"},
		{"'a' ('b' | 'c'?) 'd'", "0: a>1,2,3 b>3 c>3 d!"},
		{"('a'? 'b'?)? 'c'", "0,1,2: a>1,2 b>2 c!"},

		{"'a'* 'b'", "0,1: a>0,1 b!"},
		{"'a'+", "0: a!>0"},
		{"'ab'+", "0: a>1 b!>0"},
		{"('a' | 'b')+", "0,1: a!>0,1 b!>0,1"},
		{"('a' 'b'?)+ 'c'", "0: a>0,1,2 b>0,2 c!"},
		{"('a'? 'b' 'c'?)* 'd'", "0,1,3: a>1 b>0,1,2,3 c>0,1,3 d!"},
		{"('a'+ 'b')+", "0: a>0,1 b!>0"},
		{"(('a' | 'b'* 'c') 'd')* 'e'", "0,1,2,4: a>3 b>1,2 c>3 d>0,1,2,4 e!"},
		{"('a'+)+", "0: a!>0"},
		{"(('a'+)? 'b')+ 'c'", "0,1: a>0,1 b>0,1,2 c!"},
		{"'a' 'a'* | 'a'+ 'b'", "0,2: a!>1 a!>1 a>2,3 b!"},
	} {
		if k.want != "" {
			told(t, Read("a : A ; A : "+k.text+" ;"), k.want)
		} else {
			refused(t, Read("a : A ; A : "+k.text+" ;"), api.ErrArg) // it may be empty
		}
	}
}

// P8.1: tokens, those to be skipped, and fragments, in whatever order.
func TestTokens(t *testing.T) {
	for _, k := range []struct{ text, want string }{
		{"a : ;", ":"}, // no tokens
		{"a : ; fragment F : 'f' ;", ":"},
		{"A : 'a' ; a : A ; skip S : ' ' ; B : 'bc' ;", "0,1,2: a! / \\u{20}! / b>3 c!"},
		{"skip S : ' '+ ; a : A ; b : A ; A : 'a' ;", "0,1: \\u{20}!>0 / a!"},
		{"a : A B ; B : 'b' ; A : 'a' ;", "0,1: b! / a!"},
		{"a : A ; fragment F : 'f' ; A : 'a' F ;", "0: a>1 f!"},
		{"a : A ; A : F 'a' F ; fragment F : 'fg'? ;", "0,2: f>1 g>2 a!>3 f>4 g!"}, // each time anew
		{"a : A ; A : F+ ; B : F 'b' ; fragment F : [a-c] 'x'* ;", "0,2: a-c!>0,1 x!>0,1 / a-c>3,4 x>3,4 b!"},
		{"a : A ; A : E ; fragment E : F F 'e' ; fragment F : D | D 'f' ; fragment D : 'd' ;", "0,1: d>3,4 d>2 f>3,4 d>6 d>5 f>6 e!"},
		{"a : A ; A : (E | 'a')* 'b' ; fragment E : ; skip S : E E 's' E ;", ""}, // a loop's body that may be empty
		{"a : A ; A : (E | 'a') 'b' E ; fragment E : ; skip S : E E 's' E ;", "0,1,2: a>1 b! / s!"},
		{`list : OPEN (NAME (COMMA NAME)*)? CLOSE ;
NAME : Letter (Letter | Digit)* ;
COMMA : ',' ;
fragment Letter : [a-zA-Z_] ;
skip GAP : (' ' | '\n')+ | '//' ~[\n]* ;
OPEN : '(' ; CLOSE : ')' ;
fragment Digit : '0'..'9' ;
NUMBER : Digit+ ('.' Digit+)? ;`,
			"0,3,4,5,6,9,10,11: a-zA-Z_!>1,2 a-zA-Z_!>1,2 0-9!>1,2 / ,! / \\u{20}!>4,5 \\n!>4,5 />7 /!>8 \\u{0}-\\t\\u{b}-\\u{d7ff}\\u{e000}-\\u{10ffff}!>8 / (! / )! / 0-9!>11,12 .>13 0-9!>13"},
	} {
		g := Read(k.text)
		if k.want == "" {
			refused(t, g, api.ErrArg)
			continue
		}
		k.want = strings.ReplaceAll(k.want, "\\u{20}", " ")
		told(t, g, k.want)
		a := built(t, g)
		if a.Kinds != len(checks.Of(g, api.SToken, api.SSkip)) {
			t.Errorf("Build(%s): %d kinds", k.text, a.Kinds)
		}
	}
}

// P8.1: what a token's number is, with rules of other sorts, and such as have no places, between.
func TestKinds(t *testing.T) {
	x := Lit("x")
	g := Grammar(Rule(strange, "z", x), Token("A", x), fragment("F", x), Token("B", Alts()), Parser("s", Seq()), Rule(api.SSkip, "S", Seq(x, x)), Rule(strange, "y", x), Token("C", Tok("F")), Token("D", Plus()))
	a := built(t, g)
	if s := line(a); s != "0,1,3: x! / / x>2 x! / x! /" || a.Kinds != 5 {
		t.Error(s, a.Kinds)
	}
	none := built(t, whole(fragment("F", x), Rule(strange, "z", x)))
	if none.Places != nil || none.First != nil || none.Kinds != 0 {
		t.Error(none)
	}
	bare := built(t, whole(Token("A", Alts()), Rule(api.SSkip, "S", Plus())))
	if len(bare.Places) != 0 || len(bare.First) != 0 || bare.Kinds != 2 {
		t.Error(bare)
	}
}

// P8.1: nodes that no text has. They are part of more, so that it is to be seen what they do.
func TestOddNodes(t *testing.T) {
	x, y, z := Lit("x"), Lit("y"), Lit("z")
	for _, k := range []struct {
		n    api.Node
		want string
	}{
		{Seq(x), "0: x!"}, // of one
		{Seq(Seq(), x, Seq(Seq(y))), "0: x>1 y!"},
		{Alts(x), "0: x!"},
		{Alts(Seq(x), Alts(y, z)), "0,1,2: x! y! z!"},

		{Seq(x, Lit("")), "0: x!"},
		{Seq(Lit(""), x, Lit(""), y), "0: x>1 y!"},
		{Lit("\xff"), "0: \\u{fffd}!"}, // bytes that are no rune's
		{Lit("a\xc3é\xe2\x82\xe2\x82\xac\xed\xa0\x80"), "0: a>1 \\u{fffd}>2 \\u{e9}>3 \\u{fffd}>4 \\u{fffd}>5 \\u{20ac}>6 \\u{fffd}>7 \\u{fffd}>8 \\u{fffd}!"},
		{Lit("\ufffd\x00"), "0: \\u{fffd}>1 \\u{0}!"},

		{Set(), "0: !"}, // a place at which no rune may stand
		{Seq(Set(), x), "0: >1 x!"},
		{Set('b', 'a', 'c', 'c'), "0: b-ac!"},
		{api.Node{Kind: api.KSet, Name: "A", Text: "ab", Set: Set('c', 'd').Set, Subs: []api.Node{x}}, "0: c-d!"},
		{api.Node{Kind: api.KLit, Name: "A", Text: "ab", Set: Set('c', 'd').Set, Subs: []api.Node{x}}, "0: a>1 b!"},
		{api.Node{Kind: api.KSeq, Text: "ab", Set: Set('c', 'd').Set, Subs: []api.Node{x}}, "0: x!"},

		{Seq(x, Opt(), y), "0: x>1 y!"}, // without Subs: a text of no places
		{Seq(x, Star(), y), "0: x>1 y!"},
		{Seq(x, Plus(), y), "0: x y!"}, // no text at all
		{Seq(x, Alts(), y), "0: x y!"},
		{Seq(x, Opt(Alts()), y), "0: x>1 y!"},
		{Seq(x, Star(Plus()), y), "0: x>1 y!"},
		{Seq(x, Plus(Alts()), y), "0: x y!"},
		{Seq(x, Alts(Alts(), Plus()), y), "0: x y!"},
		{Seq(x, Alts(Alts(), Seq()), y), "0: x>1 y!"},
		{Seq(x, Alts(Alts(), z), y), "0: x>1 z>2 y!"},
		{Alts(), ":"},
		{Plus(), ":"},

		{Seq(Alts(), x), ": x!"}, // told part by part
		{Seq(x, Alts()), "0: x"},
		{Seq(Plus(), x, y, Plus()), ": x>1 y"},
		{Seq(Opt(x), Alts(), Opt(y), z), "0: x y>2 z!"},
		{Seq(x, Seq(y, Alts()), z), "0: x>1 y z!"},
		{Seq(x, Alts(Seq(Alts(), y), z), y), "0: x>2 y>3 z>3 y!"},
		{Plus(Seq(x, Alts(), y)), "0: x y!>0"}, // a Sub's end, and its beginning behind
		{Star(Seq(Alts(), x)), ""},             // it may be empty
		{Seq(Star(Seq(Alts(), x)), y), "1: x>1 y!"},
		{Seq(x, Star(Seq(y, Alts())), z), "0: x>1,2 y z!"},

		{Seq(x, Opt(y, z), x), "0: x>1,2 y>2 x!"}, // of several Subs the first one counts
		{Seq(Star(x, Seq(y, z)), y), "0,1: x>0,1 y!"},
		{Plus(x, y), "0: x!>0"},
		{Seq(Opt(Alts(), x), y), "0: y!"},
		{Seq(x, Plus(Alts(), Tok("E")), y), "0: x y!"},

		{Seq(Pred(x), y), "0: y!"}, // of other kinds: no places
		{Seq(y, Pred(), Pred(x, y), z), "0: y>1 z!"},
		{Seq(x, Node(api.KSet+1), y, Node(math.MaxUint8, x)), "0: x>1 y!"},
		{Plus(Seq(x, Node(api.KSet+1, y))), "0: x!>0"},
		{Node(api.KSet + 1), ":"},

		{Seq(api.Node{Kind: api.KTok, Name: "E", Text: "ab", Subs: []api.Node{x}}, x), "0: x!"},
		{api.Node{Kind: api.KTok, Name: "F", Text: "ab", Subs: []api.Node{x}}, "0: f>1 g!"},
	} {
		g := whole(Token("A", k.n), fragment("F", Lit("fg")), fragment("E", Lit("")))
		if k.want == "" {
			refused(t, g, api.ErrArg)
		} else {
			told(t, g, k.want)
		}
	}
}

// P8.1: the Sets stand as they are, whatever is in them.
func TestSets(t *testing.T) {
	for _, set := range [][]api.Range{
		Set('z', 'a', 'b', 'b', 'a', 'c').Set,
		Set('a', 'b', 'c', 'd', 'a', 'b').Set,
		Set(0, 0x10ffff, 0xd800, 0xdfff).Set,
		Set(-5, -3, math.MinInt32, math.MaxInt32, 0x110000, 0x110000).Set,
	} {
		a := built(t, one(Seq(Set(set[0].Low, set[0].High), api.Node{Kind: api.KSet, Set: set})))
		if len(a.Places) != 2 || !slices.Equal(a.Places[0].Set, set[:1]) || !slices.Equal(a.Places[1].Set, set) {
			t.Error(set, a)
		}
	}
}

// P8.1: a grammar with which something is wrong, whatever that is, and whatever else there is (R2).
func TestWrong(t *testing.T) {
	found := map[checks.Code]bool{}
	for _, s := range Faults() {
		g := Read(s)
		for _, p := range checks.Check(g) {
			found[p.Code] = true
		}
		refused(t, g, api.ErrArg)
		g.Rules = append(g.Rules, Token("Z", Lit(strings.Repeat("z", api.MaxStates+1)))) // too many places, too
		refused(t, g, api.ErrArg)
	}
	for c := checks.PrTwice; c <= checks.PrStart; c++ {
		if !found[c] {
			t.Error(c, "is in none of them")
		}
	}
	refused(t, api.Grammar{}, api.ErrArg)
	refused(t, Grammar(), api.ErrArg)
	refused(t, Grammar(Parser("a", Seq()), Token("A", Ref("a"))), api.ErrArg)
	refused(t, Grammar(Parser("a", Seq()), Token("A", Seq(Lit("x"), Ref("b")))), api.ErrArg)
}

// P8.1: as many places as may be, and one more, however they come.
func TestManyPlaces(t *testing.T) {
	x := func(count int) api.Node { return Lit(strings.Repeat("x", count)) }
	const all = api.MaxStates
	f := fragment("F", x(all/4))
	for _, body := range []api.Node{
		x(all),
		Seq(slices.Repeat([]api.Node{Lit("x")}, all)...),
		Alts(slices.Repeat([]api.Node{Set('a', 'b')}, all)...),
		Plus(Alts(x(all/2), Seq(x(all/2-1), Set()))),
		Seq(x(all/4), Tok("F"), Alts(Tok("F"), Plus(Tok("F")))),
		Seq(Opt(x(all/2)), Star(x(all/2-1)), Set('x', 'x')),
	} {
		a := built(t, whole(Token("A", body), f))
		if len(a.Places) != all || !a.Places[all-1].Last {
			t.Errorf("%d places", len(a.Places))
		}
		refused(t, whole(Token("A", Seq(body, Lit("x"))), f), api.ErrLimit)
		refused(t, whole(Token("A", Seq(Set(), body)), f), api.ErrLimit)
		refused(t, whole(Token("A", body), f, Rule(api.SSkip, "S", Set())), api.ErrLimit)
		refused(t, whole(Token("Z", Lit("\xff")), f, Token("A", body)), api.ErrLimit)
		more := []api.Rule{f, Token("E", Alts()), fragment("D", x(all))} // that have no places
		a = built(t, whole(append(more, Token("A", body))...))
		if len(a.Places) != all || a.Kinds != 2 {
			t.Errorf("%d places of %d tokens", len(a.Places), a.Kinds)
		}
		refused(t, whole(append([]api.Rule{Token("A", Seq(body, Lit("x")))}, more...)...), api.ErrLimit)
	}
	refused(t, one(x(1<<22)), api.ErrLimit)
	var rules []api.Rule
	for i := range api.MaxRules - 1 {
		rules = append(rules, Token("T"+strconv.Itoa(i), x(all/(api.MaxRules-1))))
	}
	rules[0].Body = x(all/(api.MaxRules-1) + all%(api.MaxRules-1))
	if a := built(t, whole(rules...)); len(a.Places) != all || len(a.First) != api.MaxRules-1 {
		t.Errorf("%d places, %d of them first", len(a.Places), len(a.First))
	}
	rules[5].Body.Text += "x"
	refused(t, whole(rules...), api.ErrLimit)
}

// P8.1: all places behind all.
func TestAllFollow(t *testing.T) {
	const all = api.MaxStates
	want := make([]int, all)
	for i := range want {
		want[i] = i
	}
	a := built(t, one(Plus(Alts(slices.Repeat([]api.Node{Lit("x")}, all)...))))
	if !slices.Equal(a.First, want) {
		t.Error("First:", len(a.First))
	}
	for i, p := range a.Places {
		if !p.Last || !slices.Equal(p.Follow, want) || cap(p.Follow) != all {
			t.Fatal(i, p.Last, len(p.Follow), cap(p.Follow))
		}
	}
}

// P8.1: as many nodes as may be gone through, and one more, however they come.
func TestManyNodes(t *testing.T) {
	x := Lit("x")
	empties := func(count int) []api.Node { return slices.Repeat([]api.Node{Seq()}, count) }
	for name, k := range map[string]struct {
		body  []api.Node // of a token, one behind the other
		rules []api.Rule
	}{
		"one behind the other": {append(empties(most-2), x), nil},
		"one or the other":     {[]api.Node{Alts(slices.Repeat([]api.Node{Seq(Plus(), Lit(""))}, most/3-1)...), x, Star()}, nil},
		"within one another":   {[]api.Node{Chain(most-2, api.KPlus, x)}, nil},
		"rule by rule":         {append(empties(most/2-2), x), []api.Rule{Rule(api.SSkip, "S", Seq(append(empties(most/2-2), x)...))}},
		"by name":              {append(slices.Repeat([]api.Node{Tok("E")}, most/3-1), x, Set(), Opt()), []api.Rule{fragment("E", Opt(Lit("")))}},
		"what is none too":     {append(slices.Repeat([]api.Node{Pred(x, x), Node(api.KSet+1, x)}, most/2-1), x), nil},
	} {
		g := whole(append(k.rules, Token("A", Seq(k.body...)))...)
		if nodes := through(g); nodes != most {
			t.Fatal(name, nodes)
		}
		built(t, g)
		for _, n := range []api.Node{Seq(), Alts(), Opt(), Star(), Plus(), Pred(), Lit(""), Lit("y"), Set(), Node(api.KSet + 1)} {
			g.Rules[len(g.Rules)-1].Body.Subs = append(slices.Clip(k.body), n)
			refused(t, g, api.ErrLimit)
		}
		built(t, whole(append(k.rules, Token("A", Seq(k.body...)), fragment("F", Seq(k.body...)))...)) // that is named by none
	}
}

// through is how many nodes of a grammar are gone through.
func through(g api.Grammar) (count int) {
	for _, at := range checks.Of(g, api.SToken, api.SSkip) {
		count += steps(g, g.Rules[at].Body)
	}
	return count
}

func steps(g api.Grammar, n api.Node) int {
	count := 1
	switch n.Kind {
	case api.KTok:
		for _, r := range g.Rules {
			if r.Name == n.Name {
				count += steps(g, r.Body)
			}
		}
	case api.KOpt, api.KStar, api.KPlus:
		for _, s := range n.Subs[:min(1, len(n.Subs))] {
			count += steps(g, s)
		}
	case api.KSeq, api.KAlts:
		for _, s := range n.Subs {
			count += steps(g, s)
		}
	}
	return count
}

// P8.1: rules that name each another one twice are gone through as often.
func TestDoubled(t *testing.T) {
	double := func(rules int, leaf api.Node) api.Grammar {
		g := one(Seq(Lit("x"), Tok("F0")))
		for i := range rules {
			next := Tok("F" + strconv.Itoa(i+1))
			g.Rules = append(g.Rules, fragment("F"+strconv.Itoa(i), Seq(next, next)))
		}
		g.Rules = append(g.Rules, fragment("F"+strconv.Itoa(rules), leaf))
		return g
	}
	for rules := range 15 { // with 2^14 leaves there are 2^16 nodes and more
		g := double(rules, Seq())
		if through(g) <= most {
			told(t, g, "0: x!")
		} else {
			refused(t, g, api.ErrLimit)
		}
	}
	for rules := 15; rules <= api.MaxRules-3; rules++ {
		refused(t, double(rules, Seq()), api.ErrLimit)
		refused(t, double(rules, Lit("x")), api.ErrLimit)
	}
	if a := built(t, double(11, Lit("y"))); len(a.Places) != 1+1<<11 {
		t.Errorf("%d places", len(a.Places))
	}
	refused(t, double(12, Lit("y")), api.ErrLimit) // one place too many
}

// P8.1: nodes within nodes, as many levels as anything is promised of.
func TestDeepNodes(t *testing.T) {
	for _, k := range []struct {
		kind api.Kind
		want string
	}{
		{api.KSeq, "0,1: x>1 y!"},
		{api.KAlts, "0,1: x>1 y!"},
		{api.KOpt, "0,1: x>1 y!"},
		{api.KPlus, "0,1: x>0,1 y!"},
	} {
		const levels = most - 4
		g := one(Seq(Opt(Chain(levels, k.kind, Lit("x"))), Lit("y")))
		told(t, g, k.want)
		if levels != most-through(one(Seq(Opt(Lit("x")), Lit("y")))) {
			t.Error(through(g))
		}
		refused(t, one(Seq(Opt(Chain(levels+1, k.kind, Lit("x"))), Lit("y"))), api.ErrLimit)
	}
	told(t, one(Seq(Chain(most, api.KPred, Lit("x")), Lit("y"))), "0: y!") // that is not gone through
}

// R1: of a node that is within itself each call ends, and leaves it as it is; where it is gone through, there is more than may be.
func TestRings(t *testing.T) {
	for _, leaf := range []api.Node{Lit("x"), Tok("F"), Tok("none"), Tok("r"), Ref("none"), Tok("s"), Seq()} {
		for _, n := range Rings(leaf) {
			g := whole(Token("A", Lit("a")), Rule(api.SSkip, "r", n), fragment("F", Lit("f")))
			a, e := nfas.Build(g)
			if e != api.OK && (e != api.ErrLimit || !reflect.DeepEqual(a, nfas.Auto{})) {
				t.Errorf("a ring of kind %d: error %d", n.Kind, e)
			}
			if gone := goes(n, 0); gone != (e == api.ErrLimit) {
				t.Errorf("a ring of kind %d, which is gone through: %t; error %d", n.Kind, gone, e)
			}
			if r := g.Rules[2].Body; r.Kind != n.Kind || len(r.Subs) != len(n.Subs) {
				t.Error("another body:", r.Kind, len(r.Subs))
			}
		}
	}
	for _, n := range Rings(Lit("x")) {
		told(t, whole(Token("A", Lit("a")), fragment("F", n)), "0: a!") // that is named by none
	}
	for _, k := range []api.Kind{api.KSeq, api.KAlts} { // what is beside is not gone through any more
		wide := Wide(k)
		refused(t, whole(Token("A", wide), Token("B", wide)), api.ErrLimit)
	}
}

// goes tells whether going through a node of the rule r never ends: on some way down through Subs that count there are more of them than a ring has that ends, or one leads back by name.
func goes(n api.Node, deep int) bool {
	subs := n.Subs
	switch n.Kind {
	case api.KTok:
		return n.Name == "r"
	case api.KOpt, api.KStar, api.KPlus:
		subs = subs[:min(1, len(subs))]
	case api.KSeq, api.KAlts:
	default:
		return false
	}
	return deep > 9 || slices.ContainsFunc(subs, func(s api.Node) bool { return goes(s, deep+1) })
}

// R1, R4, R5: nothing that is handed in changes, nothing of it is kept, lists have no room behind and share no memory, and the same call answers the same, whatever became of an answer.
func TestApart(t *testing.T) {
	g := Read("a : A ; A : F [a-cx-z] (F | 'b')* ; fragment F : [0-9] 'é'? ; skip S : [ \\n]+ | F+ ; B : ~[a-z0] | 'abcd' [a-cABCD]? ;")
	g.Rules = append(g.Rules, Token("C", Seq(Set(), api.Node{Kind: api.KSet, Set: []api.Range{}}, api.Node{Kind: api.KSet, Set: make([]api.Range, 1, 9)})))
	was := g
	was.Rules = slices.Clone(g.Rules)
	for i, r := range g.Rules {
		was.Rules[i].Body = nodes.Copy(r.Body)
	}
	a := built(t, g)
	want := line(a)
	if len(a.Places) != 18 || cap(a.Places) != 18 {
		t.Errorf("%d places, room for %d", len(a.Places), cap(a.Places))
	}
	apart(t, g, a)
	spoil(a)
	if !reflect.DeepEqual(g, was) {
		t.Error("what was handed in is another one")
	}
	if b := built(t, g); line(b) != want {
		t.Error("another answer of the same:", line(b))
	}
	b := built(t, g)
	for _, r := range g.Rules {
		for i := range r.Body.Subs {
			clear(r.Body.Subs[i].Set)
		}
	}
	clear(g.Rules)
	if line(b) != want {
		t.Error("what was handed in is kept:", line(b))
	}
}

// apart holds that no two lists of an answer, and none of it and of the grammar, share memory, and that none has room behind.
func apart(t *testing.T, g api.Grammar, a nfas.Auto) {
	t.Helper()
	sets := map[*api.Range]bool{}
	var look func(n api.Node)
	look = func(n api.Node) {
		if cap(n.Set) > 0 {
			sets[unsafe.SliceData(n.Set)] = true
		}
		for _, s := range n.Subs {
			look(s)
		}
	}
	for _, r := range g.Rules {
		look(r.Body)
	}
	lists := map[*int]bool{}
	for i, l := range append([][]int{a.First}, follows(a)...) {
		if cap(l) != len(l) || lists[unsafe.SliceData(l)] {
			t.Errorf("list %d: %v, room for %d", i, l, cap(l))
		}
		if len(l) > 0 {
			lists[unsafe.SliceData(l)] = true
		}
	}
	for i, p := range a.Places {
		if cap(p.Set) != len(p.Set) || sets[unsafe.SliceData(p.Set)] {
			t.Errorf("set %d: %v, room for %d", i, p.Set, cap(p.Set))
		}
		if len(p.Set) > 0 {
			sets[unsafe.SliceData(p.Set)] = true
		}
	}
}

func follows(a nfas.Auto) (l [][]int) {
	for _, p := range a.Places {
		l = append(l, p.Follow)
	}
	return l
}

// spoil overwrites all of an answer.
func spoil(a nfas.Auto) {
	for _, p := range a.Places {
		for i := range p.Set {
			p.Set[i] = api.Range{Low: 1, High: 2}
		}
		for i := range p.Follow {
			p.Follow[i] = 7
		}
	}
	for i := range a.First {
		a.First[i] = 7
	}
	clear(a.Places)
}
