package grams_test

import (
	"reflect"
	"strings"
	"testing"
	"unsafe"

	"harbinger/api"
	"harbinger/grams"
	. "harbinger/made"
	"harbinger/nodes"
	"harbinger/scans"
)

// P4.2
func TestRule(t *testing.T) {
	a, b := Tok("A"), Ref("b")
	for _, k := range []struct {
		r    api.Rule
		want string
	}{
		{Rule(api.SParser, "a", Star(Tok("B"))), "a : B* ;"},
		{Rule(api.SToken, "B", Lit("b")), "B : 'b' ;"},
		{Rule(api.SFragment, "B", Lit("b")), "fragment B : 'b' ;"},
		{Rule(api.SSkip, "B", Lit("b")), "skip B : 'b' ;"},
		{Rule(api.SParser, "a", Seq()), "a : () ;"},
		{Rule(api.SSkip, "A", Seq()), "skip A : () ;"},
		{Rule(api.SParser, "a", Alts(Seq(Pred(Alts(a, b)), a), Seq())), "a : (A | b) => A | () ;"},
		{Rule(api.SParser, "a", Alts(Alts(a, b), Seq(Seq(a, b), Alts(a, b), Star(Alts(a, b))))), "a : (A | b) | (A b) (A | b) (A | b)* ;"},
		{Rule(api.SParser, "a", Opt(Pred(a))), "a : ((A) =>)? ;"},
		{Rule(api.SToken, "A", Seq(Set('a', 'c', ']', ']'), Plus(Set(0, below, above, last)), Lit("it's\n"))), `A : [a-c\]] [\u{0}-\u{d7ff}\u{e000}-\u{10ffff}]+ 'it\'s\n' ;`},
		{Rule(api.SToken, strings.Repeat("A", api.MaxName), a), strings.Repeat("A", api.MaxName) + " : A ;"},

		// what is not sound is told as what there is of it
		{api.Rule{}, " :  ;"},
		{Rule(api.SFragment, "", Seq()), "fragment  : () ;"},
		{Rule(4, "a", a), "a : A ;"},
		{Rule(255, "A", a), "A : A ;"},
		{Rule(api.SSkip, "a", b), "skip a : b ;"},
		{Rule(api.SParser, "A", Lit("'")), `A : '\'' ;`},
		{Rule(api.SParser, "grammar", a), "grammar : A ;"},
		{Rule(api.SFragment, "\xff : \n%d", a), "fragment \xff : \n%d : A ;"},
		{Rule(api.SParser, strings.Repeat("a", 1000), Seq(a)), strings.Repeat("a", 1000) + " : A ;"},
		{Rule(api.SToken, "A", Pred(Alts(a))), "A : (A) => ;"},
	} {
		if s := grams.Rule(k.r); s != k.want {
			t.Errorf("Rule(%v): %q; want %q", k.r, s, k.want)
		}
		r := k.r
		r.At = api.Pos{At: 7, Line: 8, Col: 9} // which is not told
		if s := grams.Rule(r); s != k.want {
			t.Errorf("Rule(%v): %q; want %q", r, s, k.want)
		}
		if s, want := grams.Print(Grammar(r, k.r)), "grammar G;\noptions { bound = 2; states = 256; }\n"+k.want+"\n"+k.want+"\n"; s != want {
			t.Errorf("Print: %q; want %q", s, want)
		}
	}
	for _, n := range Rings(Tok("A")) {
		if s := grams.Rule(Rule(api.SSkip, "A", n)); s != "skip A :  ;" {
			t.Errorf("Rule of one that never ends: %.100q", s)
		}
	}
}

// P4.2
func TestPrint(t *testing.T) {
	big := int(^uint(0) >> 1)
	for _, k := range []struct {
		g    api.Grammar
		want string
	}{
		{Grammar(), "grammar G;\noptions { bound = 2; states = 256; }\n"},
		{Grammar(Rule(api.SParser, "a", Star(Tok("B"))), Rule(api.SToken, "B", Lit("b"))), "grammar G;\noptions { bound = 2; states = 256; }\na : B* ;\nB : 'b' ;\n"},
		{api.Grammar{Name: "grammar", Options: api.Options{Bound: 8, States: 4096}, Rules: []api.Rule{Rule(api.SFragment, "A", Set('a', 'z')), Rule(api.SSkip, "A", Lit(" ")), Rule(api.SParser, "b", Seq())}},
			"grammar grammar;\noptions { bound = 8; states = 4096; }\nfragment A : [a-z] ;\nskip A : ' ' ;\nb : () ;\n"},
		{api.Grammar{Name: "a_1", Options: api.Options{Bound: 1, States: 1}}, "grammar a_1;\noptions { bound = 1; states = 1; }\n"},

		// what is not sound is told as what there is of it
		{api.Grammar{}, "grammar ;\noptions { bound = 0; states = 0; }\n"},
		{api.Grammar{Name: "\x00;", Options: api.Options{Bound: -1, States: -256}, Rules: make([]api.Rule, 1)}, "grammar \x00;;\noptions { bound = -1; states = -256; }\n :  ;\n"},
		{api.Grammar{Options: api.Options{Bound: big, States: -big - 1}, Rules: []api.Rule{}}, "grammar ;\noptions { bound = 9223372036854775807; states = -9223372036854775808; }\n"},
		{api.Grammar{Name: "G", Options: api.Options{Bound: 9, States: 4097}, Rules: []api.Rule{Rule(api.SToken, "a", Ref("b")), Rule(77, "", Tok("A"))}}, "grammar G;\noptions { bound = 9; states = 4097; }\na : b ;\n : A ;\n"},
	} {
		if s := grams.Print(k.g); s != k.want {
			t.Errorf("Print(%v): %q; want %q", k.g, s, k.want)
		}
	}
	many := Grammar()
	want := grams.Print(many)
	for range 3 * api.MaxRules {
		many.Rules = append(many.Rules, Rule(api.SParser, "a", Seq(Tok("A"), Ref("b"))))
		want += "a : A b ;\n"
	}
	if s := grams.Print(many); s != want {
		t.Errorf("Print of more rules than may be: %q", s)
	}
}

// P4.3: names of grammars and of rules.
func TestSoundNames(t *testing.T) {
	sound := func(name string, sort api.Sort) bool {
		return grams.Sound(Grammar(Rule(sort, name, Seq())))
	}
	for _, k := range []struct {
		name      string
		is        bool // a name at all
		small, of bool // one that begins small; one of the four
	}{
		{"a", true, true, false}, {"A", true, false, false}, {"z", true, true, false}, {"Z", true, false, false}, {"aZ_09", true, true, false}, {"Az_09", true, false, false}, {"a_", true, true, false},
		{"grammar", true, true, true}, {"options", true, true, true}, {"fragment", true, true, true}, {"skip", true, true, true},
		{"bound", true, true, false}, {"states", true, true, false}, {"Grammar", true, false, false}, {"SKIP", true, false, false}, {"grammars", true, true, false}, {"ski", true, true, false}, {"fragmenT", true, true, false}, {"skip_", true, true, false},
		{strings.Repeat("a", api.MaxName), true, true, false}, {strings.Repeat("Z", api.MaxName), true, false, false}, {strings.Repeat("a", api.MaxName+1), false, false, false}, {strings.Repeat("Z", api.MaxName+1), false, false, false},
		{"", false, false, false}, {"_", false, false, false}, {"_a", false, false, false}, {"1", false, false, false}, {"9A", false, false, false}, {" a", false, false, false}, {"a ", false, false, false}, {"a b", false, false, false}, {"a-b", false, false, false},
		{"a\x00", false, false, false}, {"A\xff", false, false, false}, {"\u00e9", false, false, false}, {"a\u00e9", false, false, false}, {"\u00c9", false, false, false}, {"a.", false, false, false}, {"'a'", false, false, false}, {"a;", false, false, false}, {"@", false, false, false}, {"[", false, false, false}, {"`", false, false, false}, {"{", false, false, false}, {"a/", false, false, false}, {"a:", false, false, false},
	} {
		g := Grammar(Rule(api.SParser, "a", Seq()))
		g.Name = k.name
		if grams.Sound(g) != k.is {
			t.Errorf("Sound of a grammar by the name %q: %t", k.name, !k.is)
		}
		for _, sort := range []api.Sort{api.SParser, api.SToken, api.SFragment, api.SSkip, 4, 5, 128, 255} {
			want := k.is && (sort == api.SParser && k.small && !k.of || sort > 0 && sort < 4 && !k.small)
			if sound(k.name, sort) != want {
				t.Errorf("Sound of a rule of sort %d by the name %q: %t", sort, k.name, !want)
			}
		}
	}
}

// P4.3: options.
func TestSoundOptions(t *testing.T) {
	numbers := []int{-1 << 63, -1 << 32, -256, -8, -1, 0, 1, 2, 7, 8, 9, 255, 256, 257, 4095, 4096, 4097, 1<<32 + 1, 1<<63 - 1}
	for _, bound := range numbers {
		for _, states := range numbers {
			g := Grammar(Rule(api.SParser, "a", Seq()))
			g.Options = api.Options{Bound: bound, States: states}
			if want := bound >= 1 && bound <= 8 && states >= 1 && states <= 4096; grams.Sound(g) != want {
				t.Errorf("Sound with %v: %t", g.Options, !want)
			}
		}
	}
}

// P4.3: how many rules, and that each of them counts.
func TestSoundRules(t *testing.T) {
	g := Grammar()
	if !grams.Sound(g) || !grams.Sound(api.Grammar{Name: "g", Options: g.Options, Rules: []api.Rule{}}) || grams.Sound(api.Grammar{}) {
		t.Error("of no rules")
	}
	for count := 1; count <= 2*api.MaxRules; count++ {
		g.Rules = append(g.Rules, Rule(api.SParser, "a", Star(Tok("A")))) // that they have one name does not matter here
		if want := count <= api.MaxRules; grams.Sound(g) != want {
			t.Errorf("Sound of %d rules: %t", count, !want)
		}
	}
	for _, count := range []int{1, 2, 5, api.MaxRules} {
		for at := range count {
			for i, bad := range []api.Rule{{}, Rule(api.SParser, "A", Seq()), Rule(api.SToken, "A", Ref("a")), Rule(4, "A", Seq()), Rule(api.SParser, "a", Seq(Tok("A"))), Rule(api.SParser, "skip", Seq())} {
				g := Grammar()
				for range count {
					g.Rules = append(g.Rules, Rule(api.SSkip, "A", Seq()))
				}
				g.Rules[at] = bad
				if grams.Sound(g) {
					t.Errorf("bad one %d at %d of %d: sound", i, at, count)
				}
			}
		}
	}
}

// P4.3: bodies, which are plain for the sort of their rule.
func TestSoundBodies(t *testing.T) {
	a := Tok("A")
	deep := func(levels int) api.Node {
		n := a
		for range levels - 1 {
			n = Opt(n)
		}
		return n
	}
	many := func(k api.Kind, count int) api.Node {
		n := Node(k)
		for range count {
			n.Subs = append(n.Subs, a)
		}
		return n
	}
	for _, k := range []struct {
		n             api.Node
		parser, other bool
	}{
		{a, true, true}, {Seq(), true, true}, {Seq(a, Star(a)), true, true}, {Alts(a, Seq()), true, true}, {Ref("a"), true, false}, {Ref("skip"), true, false}, {Pred(a), true, false}, {Seq(Pred(a), a), true, false}, {Alts(a, Opt(Ref("b"))), true, false},
		{Lit("a"), false, true}, {Set('a', 'b'), false, true}, {Alts(a, Plus(Lit("\n"))), false, true}, {Set(below, above), false, true}, {Set('b', 'b', 'a', 'z'), false, true},
		{api.Node{}, false, false}, {Seq(a), false, false}, {Alts(a), false, false}, {Node(api.KStar), false, false}, {Node(api.KOpt, a, a), false, false}, {Node(api.KPred), false, false}, {Seq(a, Pred(a)), false, false}, {Seq(Pred(a), Pred(a)), false, false}, {Alts(a, Seq(a, Pred(a))), false, false},
		{Ref("A"), false, false}, {Tok("a"), false, false}, {Tok(""), false, false}, {Tok(strings.Repeat("A", api.MaxName+1)), false, false}, {Lit(""), false, false}, {Lit("\xff"), false, false}, {Set(), false, false}, {Set('b', 'a'), false, false}, {Set(below+1, above), false, false}, {Set('a', last+1), false, false}, {Set(-1, 'a'), false, false},
		{api.Node{Kind: api.KTok, Name: "A", Text: "x"}, false, false}, {api.Node{Kind: api.KSeq, Name: "A"}, false, false}, {Node(api.KTok, a), false, false}, {Node(api.KSet + 1), false, false}, {Node(255, a, a), false, false},
		{deep(api.MaxDeep), true, true}, {deep(api.MaxDeep + 1), false, false}, {many(api.KAlts, api.MaxAlts), true, true}, {many(api.KAlts, api.MaxAlts+1), false, false}, {many(api.KSeq, api.MaxNodes-1), true, true}, {many(api.KSeq, api.MaxNodes), false, false},
	} {
		for _, sort := range []api.Sort{api.SParser, api.SToken, api.SFragment, api.SSkip} {
			name, want := "A", k.other
			if sort == api.SParser {
				name, want = "a", k.parser
			}
			r := Rule(sort, name, k.n)
			if grams.Sound(Grammar(r)) != want {
				t.Errorf("Sound of %.100v: %t", r, !want)
			}
			r.At = api.Pos{At: -1, Line: 0, Col: -5} // places do not matter
			if grams.Sound(Grammar(Rule(api.SToken, "B", Lit("b")), r)) != want {
				t.Errorf("Sound of another one, and %.100v: %t", r, !want)
			}
		}
	}
	for _, n := range Rings(Tok("A")) {
		for sort := range api.Sort(5) {
			if grams.Sound(Grammar(Rule(sort, "a", n))) || grams.Sound(Grammar(Rule(sort, "A", n))) {
				t.Errorf("one that never ends is sound")
			}
		}
	}
}

// again looks whether a sound grammar is read from what is printed of it, and printed as that once more.
func again(t *testing.T, g api.Grammar) {
	t.Helper()
	if !grams.Sound(g) {
		t.Fatalf("%.300v: not sound", g)
	}
	s := grams.Print(g)
	if len(s) > api.MaxText {
		t.Fatalf("%d bytes", len(s))
	}
	read := fine(t, s)
	if !same(read, g) || grams.Print(read) != s {
		t.Fatalf("%.300q: read as %.300v; want %.300v", s, read, g)
	}
	for i, r := range read.Rules {
		if at := r.At; at.Line != i+3 || !strings.HasPrefix(s[at.At:], r.Name+" : ") || at.Col != 1+strings.Index(grams.Rule(r), r.Name) {
			t.Fatalf("%.300q: rule %d at %v", s, i, at)
		}
	}
}

// hard are leaves whose texts go wrong most easily.
func hard() []api.Node {
	l := []api.Node{Seq(), Tok("A")}
	for _, s := range []string{"a", "a' 'a", "a'", "'", "''", "\\", "\\'", "n", "\n", "\r\t", "\\n", "u{41}", "\\u{41}", "\u00e9", "\x00\x7f", "\u0080\u2028\ufeff\U0010ffff", "()", "// /*", " ", "] ;", "=>", "..", "\ufffd"} {
		l = append(l, Lit(s))
	}
	for _, ends := range [][]rune{{'a', 'c'}, {'a', 'b', 'c', 'c'}, {'a', 'a', '-', '-', 'c', 'c'}, {'-', '-'}, {'\\', '\\', '-', '-'}, {'\\', '-'}, {'-', '-', 'a', 'a'}, {'a', 'a', '-', '-'}, {'a', 'a', 'a', 'a'}, {']', ']'}, {'[', ']'}, {'^', '^', '\'', '\''}, {'\n', '\n', ' ', ' '}, {0, last}, {0, below, above, last}, {below, above}, {'b', 'd', 'a', 'c'}} {
		l = append(l, Set(ends...))
	}
	return l
}

// P4.4: all small bodies are read as what they are printed of.
func TestPrintedIsRead(t *testing.T) {
	for _, k := range []struct {
		most   int
		token  bool
		leaves []api.Node
		least  int // of plain ones
	}{
		{5, false, []api.Node{Tok("A"), Ref("b"), Seq()}, 4000},
		{6, false, []api.Node{Tok("A"), Seq()}, 13000},
		{5, true, []api.Node{Lit("a"), Set('a', 'a'), Seq()}, 2500},
		{3, true, hard(), 3000},
	} {
		g := Grammar()
		plain := 0
		for _, l := range Grown(k.most, Kinds(api.KAlts, api.KPred), k.leaves) {
			for _, n := range l {
				if !nodes.Plain(n, k.token) {
					continue
				}
				plain++
				r := Rule(api.SParser, "a", n)
				if k.token {
					r = Rule(api.Sort(1+plain%3), "A", n)
				}
				if g.Rules = append(g.Rules, r); len(g.Rules) == api.MaxRules {
					again(t, g)
					g.Rules = nil
				}
			}
		}
		again(t, g)
		if plain < k.least {
			t.Errorf("no more than %d plain ones", plain)
		}
	}
}

// P4.4: whatever name, options and rules.
func TestPrintedGrammarIsRead(t *testing.T) {
	for _, name := range []string{"G", "g", "grammar", "options", "fragment", "skip", "bound", strings.Repeat("z", api.MaxName)} {
		for _, bound := range []int{1, 2, api.MaxBound} {
			for _, states := range []int{1, 256, api.MaxStates} {
				g := fine(t, sample)
				g.Name, g.Options = name, api.Options{Bound: bound, States: states}
				again(t, g)
				g.Rules = nil
				again(t, g)
			}
		}
	}
	for _, name := range []string{"grammar", "options", "fragment", "skip", "bound", "states"} {
		again(t, Grammar(Rule(api.SParser, "a", Ref(name)), Rule(api.SParser, "b", Alts(Seq(Pred(Ref(name)), Ref(name)), Opt(Ref(name)), Seq()))))
	}
	deep, wide, long := fine(t, head+"a : "+deep(api.MaxDeep)+" ;"), fine(t, head+"skip A : "+wide(api.MaxAlts)+" ;"), fine(t, head+"A : "+long(api.MaxNodes)+";")
	again(t, deep)
	again(t, wide)
	again(t, long)
	again(t, Grammar(deep.Rules[0], wide.Rules[0], long.Rules[0], deep.Rules[0]))
}

// P4.4: a grammar of which just as much is printed as a text may have; of one byte more none can be read.
func TestPrintedIsLong(t *testing.T) {
	g := Grammar(Rule(api.SToken, "A", Lit("x")))
	room := api.MaxText - len(grams.Print(g)) + 1
	g.Rules[0].Body = Lit(strings.Repeat("x", room))
	again(t, g)
	g.Rules[0].Body = Lit(strings.Repeat("x", room+1))
	if !grams.Sound(g) {
		t.Error("not sound, for its length")
	}
	s := grams.Print(g)
	if read, fault := grams.Read(s); len(s) != api.MaxText+1 || fault != (scans.Fault{E: api.ErrLimit, At: api.Pos{Line: 1, Col: 1}}) || !reflect.DeepEqual(read, api.Grammar{}) {
		t.Errorf("%d bytes: fault %v, %v", len(s), fault, read)
	}
}

// P4.4: what is read is sound, and printed and read it is the same.
func TestReadIsPrinted(t *testing.T) {
	for _, s := range []string{
		sample, "grammar G;", head + "options{}", head + "a:;", head + "A:.~[a]'a'..'z'~[\\u{d7ff}-\\u{e000}].*;", head + "a:(((B)=>)=>)=>(((c)))|((D|E)|F)((G))((H I)(J));", head + "skip A:'\t'|'\\t'|[\t]|[\\t];", head + "a:|;b:(|)|(()|);c:()()|((A)=>()|)?;",
	} {
		again(t, fine(t, s))
	}
}

// R1, R4: what is read stays what it is when the text's memory, or that of another answer, becomes something else; nothing is in the room behind.
func TestReadIsApart(t *testing.T) {
	text := []byte(sample + "E : . | . | ~[a] | ~[a] | ~[acegi] | [acegi] | [a-z] | [a-z] | 'a'..'z' | 'a'..'z' ; e : (A | b) c* ; F : (A | ()) (()|)* () ;")
	s := string(text)
	g, want := fine(t, unsafe.String(&text[0], len(text))), fine(t, s)
	if string(text) != s {
		t.Fatal("the text is changed")
	}
	clear(text)
	if !reflect.DeepEqual(g, want) {
		t.Fatal("the grammar shares memory with its text")
	}
	if cap(g.Rules) != len(g.Rules) {
		t.Errorf("%d rules, room for %d", len(g.Rules), cap(g.Rules))
	}
	ranges, subs := map[*api.Range]bool{}, map[*api.Node]bool{}
	for _, r := range g.Rules {
		owned(t, r.Body, ranges, subs)
	}
	if len(ranges) < 20 || len(subs) < 40 {
		t.Errorf("no more than %d ranges, %d nodes", len(ranges), len(subs))
	}
	for i, r := range g.Rules {
		spoil(r.Body)
		g.Rules[i] = api.Rule{Name: "spoilt", Sort: 9}
	}
	if !reflect.DeepEqual(fine(t, s), want) {
		t.Error("to change an answer changes the next one")
	}
	for _, s := range []string{head, head + "a : ;", head + "A : 'a' ; b : A ;", head + "a : ; b : ; c : ; d : ; e : ;"} {
		if g := fine(t, s); cap(g.Rules) != len(g.Rules) {
			t.Errorf("%s: %d rules, room for %d", s, len(g.Rules), cap(g.Rules))
		}
	}
}

// owned looks whether a node's lists have no room behind, and nothing that another one has.
func owned(t *testing.T, n api.Node, ranges map[*api.Range]bool, subs map[*api.Node]bool) {
	t.Helper()
	if cap(n.Set) != len(n.Set) || cap(n.Subs) != len(n.Subs) {
		t.Errorf("%d ranges, room for %d; %d Subs, room for %d", len(n.Set), cap(n.Set), len(n.Subs), cap(n.Subs))
	}
	for i := range n.Set {
		if ranges[&n.Set[i]] {
			t.Error("two sets share memory")
		}
		ranges[&n.Set[i]] = true
	}
	for i := range n.Subs {
		if subs[&n.Subs[i]] {
			t.Error("two nodes share Subs")
		}
		subs[&n.Subs[i]] = true
		owned(t, n.Subs[i], ranges, subs)
	}
}

// spoil makes something else of all that a node's lists have.
func spoil(n api.Node) {
	for i := range n.Set {
		n.Set[i] = api.Range{Low: -7, High: -8}
	}
	for i, s := range n.Subs {
		spoil(s)
		n.Subs[i] = api.Node{Kind: 99, Name: "spoilt"}
	}
}

// R1, R4: what is printed stays what it is when the memory of names and texts becomes something else.
func TestPrintedIsApart(t *testing.T) {
	memory := []byte("abc")
	name := unsafe.String(&memory[0], len(memory))
	r := api.Rule{Name: name, Body: api.Node{Kind: api.KRef, Name: name}}
	g := api.Grammar{Name: name, Options: api.Options{Bound: 1, States: 2}, Rules: []api.Rule{r, {Sort: api.SSkip, Name: name, Body: api.Node{Kind: api.KLit, Text: name}}}}
	one, all := grams.Rule(r), grams.Print(g)
	clear(memory)
	if one != "abc : abc ;" || all != "grammar abc;\noptions { bound = 1; states = 2; }\nabc : abc ;\nskip abc : 'abc' ;\n" {
		t.Errorf("what is printed shares memory with what is handed in: %q, %q", one, all)
	}
}

// grammars are sound ones and others; each call makes them anew.
func grammars(t *testing.T) []api.Grammar {
	t.Helper()
	full := api.Node{Name: "a", Text: "b", Set: []api.Range{{Low: 'c', High: 'd'}}, Subs: []api.Node{Tok("A"), Set('a', 'b')}}
	l := []api.Grammar{fine(t, sample), {}, Grammar(), {Name: "\xff", Options: api.Options{Bound: -1, States: 5000}, Rules: make([]api.Rule, 3, 10)}}
	for k := api.KAlts; k <= api.KSet+1; k++ {
		n := full
		n.Kind, n.Set = k, append(make([]api.Range, 0, 5), full.Set...)
		n.Subs = append(make([]api.Node, 0, 5), Tok("A"), Star(Lit("x")))
		l = append(l, Grammar(Rule(api.Sort(k), "a", n)), Grammar(Rule(api.Sort(k), "A", Node(k))))
	}
	return l
}

// R1, R5: whatever is handed in stays as it is, and is answered with the same again.
func TestWhateverIsHandedIn(t *testing.T) {
	all := grammars(t)
	for i, g := range all {
		if grams.Print(g) != grams.Print(g) || grams.Sound(g) != grams.Sound(g) {
			t.Errorf("%d: not the same again", i)
		}
		for _, r := range g.Rules {
			if grams.Rule(r) != grams.Rule(r) || !strings.Contains(grams.Print(g), "\n"+grams.Rule(r)+"\n") {
				t.Errorf("%d: not the same again", i)
			}
		}
	}
	if !reflect.DeepEqual(all, grammars(t)) {
		t.Error("what was handed in has changed")
	}
	for _, s := range []string{sample, head, "", "grammar G", head + "a : ? ;", head + "A : ~[a] | ~[a] ;", "\xff"} {
		g, fault := grams.Read(s)
		h, other := grams.Read(s)
		if fault != other || !reflect.DeepEqual(g, h) {
			t.Errorf("Read(%q): not the same again", s)
		}
	}
}

// P4.1, P4.4, R1: of whatever is cut out of a text, or put into it, nothing is told but a fault, or a grammar that is sound and read again.
func TestChangedTexts(t *testing.T) {
	words, _ := scans.Scan(sample)
	pieces := []string{"", ";", ":", "(", ")", "=>", "|", "?", "..", ".", "~", "'a'", "[a]", "b", "B", "7", "grammar", "options", "fragment", "skip", "}", "\x00", "\xff", "'", "/*", "@"}
	read := 0
	for i := range words {
		at, next := words[i].At.At, len(sample)
		if i+1 < len(words) {
			next = words[i+1].At.At
		}
		for _, piece := range pieces {
			for _, s := range []string{sample[:at] + " " + piece + " " + sample[at:], sample[:at] + " " + piece + " " + sample[next:]} {
				g, fault := grams.Read(s)
				if fault.E == api.OK {
					read++
					again(t, g)
				}
				if (fault.E == api.OK) != (fault == scans.Fault{}) || fault.E != api.OK && !reflect.DeepEqual(g, api.Grammar{}) {
					t.Fatalf("Read(%q): fault %v, and %v", s, fault, g)
				}
			}
		}
	}
	if read < 300 {
		t.Errorf("no more than %d are read", read)
	}
}
