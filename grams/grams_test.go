package grams_test

import (
	"reflect"
	"slices"
	"strings"
	"testing"

	"harbinger/api"
	"harbinger/grams"
	. "harbinger/made"
	"harbinger/nodes"
	"harbinger/runes"
	"harbinger/scans"
)

// Runes at which ranges of runes end.
const (
	below = 0xd7ff
	above = 0xe000
	last  = 0x10ffff
)

// head is how a grammar begins whose rules alone matter.
const head = "grammar G; "

// same holds grammars against each other, but for places.
func same(a, b api.Grammar) bool {
	return a.Name == b.Name && a.Options == b.Options && slices.EqualFunc(a.Rules, b.Rules, func(x, y api.Rule) bool {
		return x.Name == y.Name && x.Sort == y.Sort && nodes.Same(x.Body, y.Body)
	})
}

// fine tells what a text without a fault is read as, which is sound.
func fine(t *testing.T, s string) api.Grammar {
	t.Helper()
	g, fault := grams.Read(s)
	if fault != (scans.Fault{}) {
		t.Fatalf("Read(%.300q): fault %v", s, fault)
	}
	if !grams.Sound(g) {
		t.Fatalf("Read(%.300q): not sound", s)
	}
	return g
}

// faulty looks whether a text has just that fault, at its mark @, which is taken away, and whether nothing is told with it.
func faulty(t *testing.T, s string, e api.Errno) {
	t.Helper()
	ahead, behind, _ := strings.Cut(s, "@")
	s = ahead + behind
	want := scans.Fault{E: e, At: runes.Place(s, len(ahead))}
	g, fault := grams.Read(s)
	if fault != want || !reflect.DeepEqual(g, api.Grammar{}) {
		t.Errorf("Read(%.300q): fault %v, %d rules; want %v", s, fault, len(g.Rules), want)
	}
}

// sample has all that a grammar can have.
const sample = `// all of it
grammar Sample_1;
options { states = 0300; /* not the usual one */ bound = 3; }
a : (B | c? (D)*) => B+ a | ( ) | ((c) => D)* (B C | ()) | ;
c : ((B) =>) ;
B : 'it\'s' | [a-c\]x]+ F? ~[^-~] . ('a'..'\u{10ffff}')* ;
	fragment F : 'f' | () ; skip /* é */ S : (' ' | '\t')+ ;
D:'d';`

// P4.1: the chapter's examples.
func TestExamples(t *testing.T) {
	s := "grammar G; a : B* ; B : 'b' ;"
	g := fine(t, s)
	want := Grammar(Rule(api.SParser, "a", Star(Tok("B"))), Rule(api.SToken, "B", Lit("b")))
	want.Rules[0].At = runes.Place(s, 11)
	want.Rules[1].At = runes.Place(s, 20)
	if !reflect.DeepEqual(g, want) {
		t.Errorf("Read(%q): %v", s, g)
	}
	faulty(t, "grammar G@", api.ErrForm)
}

// P4.1: what all of it is read as.
func TestRead(t *testing.T) {
	b, c, d := Tok("B"), Ref("c"), Tok("D")
	want := api.Grammar{Name: "Sample_1", Options: api.Options{Bound: 3, States: 300}, Rules: []api.Rule{
		Rule(api.SParser, "a", Alts(
			Seq(Pred(Alts(b, Seq(Opt(c), Star(d)))), Plus(b), Ref("a")),
			Seq(),
			Seq(Star(Seq(Pred(c), d)), Alts(Seq(b, Tok("C")), Seq())),
			Seq(),
		)),
		Rule(api.SParser, "c", Pred(b)),
		Rule(api.SToken, "B", Alts(Lit("it's"), Seq(Plus(Set('a', 'c', ']', ']', 'x', 'x')), Opt(Tok("F")), Set(0, ']', 0x7f, below, above, last), Set(0, below, above, last), Star(Set('a', last))))),
		Rule(api.SFragment, "F", Alts(Lit("f"), Seq())),
		Rule(api.SSkip, "S", Plus(Alts(Lit(" "), Lit("\t")))),
		Rule(api.SToken, "D", Lit("d")),
	}}
	at := 0
	for i, name := range []string{"a :", "c :", "B :", "F :", "S :", "D:"} {
		at += strings.Index(sample[at:], name)
		want.Rules[i].At = runes.Place(sample, at)
	}
	if g := fine(t, sample); !reflect.DeepEqual(g, want) {
		t.Errorf("Read of the sample: %v", g)
	}
}

// P4.1: names of grammars.
func TestGrammarNames(t *testing.T) {
	for _, name := range []string{"G", "g", "a_1", "Zz09_", "grammar", "options", "fragment", "skip", "bound", strings.Repeat("x", api.MaxName)} {
		want := Grammar()
		want.Name = name
		for _, s := range []string{"grammar " + name + ";", "\n/**/grammar//\n" + name + "\t; // "} {
			if g := fine(t, s); !same(g, want) {
				t.Errorf("Read(%q): %v", s, g)
			}
		}
	}
	for _, s := range []string{
		"@", " // nothing \n@", "@G;", "@Grammar G;", "@options G;", "@;", "@'grammar' G;", "@[grammar] G;", "@1;", "@a : B ;",
		"grammar@", "grammar @;", "grammar @1;", "grammar @'G';", "grammar @[G];", "grammar @: G;", "grammar G@", "grammar G @H;", "grammar G @:", "grammar G @';'", "grammar G @{",
		"grammar grammar @grammar;", "grammar grammar; @grammar G;",
	} {
		faulty(t, s, api.ErrForm)
	}
}

// P4.1: options, each in any order, each once at most.
func TestOptions(t *testing.T) {
	for s, want := range map[string]api.Options{
		"":                                       {Bound: 2, States: 256},
		"options { }":                            {Bound: 2, States: 256},
		"options{bound=3;}":                      {Bound: 3, States: 256},
		"options { states = 3 ; }":               {Bound: 2, States: 3},
		"options { bound = 4; states = 5; }":     {Bound: 4, States: 5},
		"options { states = 5; bound = 4; }":     {Bound: 4, States: 5},
		"options { bound = 1; states = 1; }":     {Bound: 1, States: 1},
		"options { bound = 8; states = 4096; }":  {Bound: api.MaxBound, States: api.MaxStates},
		"options { bound = 2; states = 256; }":   {Bound: 2, States: 256},
		"options { bound = 000000008; }":         {Bound: 8, States: 256},
		"options { states = 000004096; }":        {Bound: 2, States: 4096},
		"options { bound=01;states=001; }":       {Bound: 1, States: 1},
		"options//\n{/**/bound\n=\n7\n; \t\r\n}": {Bound: 7, States: 256},
	} {
		g := fine(t, head+s)
		if g.Options != want || len(g.Rules) != 0 {
			t.Errorf("%s: %v", s, g)
		}
		g = fine(t, head+s+" bound : states ;")
		if g.Options != want || len(g.Rules) != 1 || g.Rules[0].Name != "bound" {
			t.Errorf("%s, and a rule: %v", s, g)
		}
	}
	for _, s := range []string{"bound = @0;", "states = @0;", "bound = @000;", "bound = @9;", "bound = @10;", "bound = @256;", "states = @4097;", "states = @999999999;", "bound = @999999999;", "bound = @000000009;",
		"states = 9; bound = @9;", "bound = 8; states = @4097;", "bound = @0}", "bound = @0", "states = @0 0;", "bound = @9 ; bound = 1;",
	} {
		faulty(t, head+"options { "+s+" }", api.ErrLimit)
	}
	for _, s := range []string{
		"options @: A ;", "options @;", "options@", "options @[{]", "options @'{' }", "options {@", "options { @;", "options { @{", "options { @= 1; }", "options { @1; }", "options { @Bound = 1; }", "options { @state = 1; }",
		"options { @options = 1; }", "options { @'bound' = 1; }", "options { bound@", "options { bound @1; }", "options { bound @: 1; }", "options { bound @=> 1; }", "options { bound @; }", "options { bound =@", "options { bound = @; }",
		"options { bound = @one; }", "options { bound = @'1'; }", "options { bound = @[1]; }", "options { bound = @= 1; }", "options { bound = 1@", "options { bound = 1 @}", "options { bound = 1 @2; }", "options { bound = 1 @. }",
		"options { bound = 1 @| states = 1; }", "options { bound = 1; @; }", "options { bound = 1;@", "options { bound = 1; @bound = 1; }", "options { bound = 1; @bound = 0; }", "options { states = 9; @states = 9; }",
		"options { states = 9; bound = 3; @states = 9; }", "options { states = 9; bound = 3; @bound = 3; }", "options { } @}", "options { } @options { }", "options { } @{", "a : ; @options { }", "options { } @;",
	} {
		faulty(t, head+s, api.ErrForm)
	}
}

// P4.1: sorts and names of rules, and that the place is that of the name.
func TestRules(t *testing.T) {
	for _, k := range []struct {
		s    string // a mark @ is ahead of the name
		name string
		sort api.Sort
	}{
		{"@a : ;", "a", api.SParser},
		{"@zZ_9:;", "zZ_9", api.SParser},
		{"@A : ;", "A", api.SToken},
		{"@Grammar : ;", "Grammar", api.SToken},
		{"@SKIP : ;", "SKIP", api.SToken},
		{"fragment @A : ;", "A", api.SFragment},
		{"skip @A : ;", "A", api.SSkip},
		{"fragment/**/@Fragment : ;", "Fragment", api.SFragment},
		{"skip\n\n @Skip : ;", "Skip", api.SSkip},
		{"@bound : ;", "bound", api.SParser},
		{"@states : ;", "states", api.SParser},
		{"@grammars : ;", "grammars", api.SParser},
		{"@skip_ : ;", "skip_", api.SParser},
		{"@" + strings.Repeat("a", api.MaxName) + " : ;", strings.Repeat("a", api.MaxName), api.SParser},
		{"skip @" + strings.Repeat("A", api.MaxName) + " : ;", strings.Repeat("A", api.MaxName), api.SSkip},
	} {
		ahead, behind, _ := strings.Cut(k.s, "@")
		for _, s := range []string{head, head + "options {}\n", head + "a : B ;\nskip S : '\u00e9' ; "} {
			ahead := s + ahead
			g := fine(t, ahead+behind)
			r := g.Rules[len(g.Rules)-1]
			if !reflect.DeepEqual(r, api.Rule{Name: k.name, Sort: k.sort, Body: Seq(), At: runes.Place(ahead+behind, len(ahead))}) {
				t.Errorf("Read(%q): %v", ahead+behind, r)
			}
		}
	}
	for _, s := range []string{
		"@;", "@: A ;", "@( a )", "@'a' : ;", "@'A' : ;", "@[a] : ;", "@1 : ;", "@| a : ;", "@{ }", "a @;", "a @b : ;", "a @= ;", "a @=> ;", "a @';' ;", "a @':' ;", "a@", "A@", "a : @: ;", "a : @= ;", "a : A @", "a :@", "a : ; @;",
		"@grammar : ;", "options @: ;", "fragment @: ;", "skip @: ;", "fragment@", "skip@", "fragment @a : ;", "skip @a : ;", "fragment @fragment A : ;", "skip @fragment A : ;", "fragment @skip A : ;", "skip @skip : ;",
		"fragment @grammar : ;", "fragment @options : ;", "skip @grammar : ;", "skip @options : ;", "fragment A@", "skip A@", "fragment A :@", "skip A :@", "fragment @'A' : ;", "skip @[A] : ;", "fragment @1", "skip A @B : ;", "fragment @; A : ;",
	} {
		faulty(t, head+s, api.ErrForm)
		if !strings.HasPrefix(s, "options") {
			faulty(t, head+"options { bound = 3; } a : b ; "+s, api.ErrForm)
		}
	}
	faulty(t, head+"a : ; @options : ;", api.ErrForm)
}
