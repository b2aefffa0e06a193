package grams_test

import (
	"slices"
	"strings"
	"testing"

	"harbinger/api"
	"harbinger/grams"
	. "harbinger/made"
	"harbinger/nodes"
)

// body tells what a text is read as in a parser's rule, or in each rule of another sort.
func body(t *testing.T, s string, token bool) api.Node {
	t.Helper()
	if !token {
		return fine(t, head+"a : "+s+" ;").Rules[0].Body
	}
	g := fine(t, head+"A : "+s+" ; fragment B : "+s+" ; skip C : "+s+" ;")
	for _, r := range g.Rules {
		if !nodes.Same(r.Body, g.Rules[0].Body) {
			t.Errorf("%s: %v in one sort, %v in another one", s, g.Rules[0].Body, r.Body)
		}
	}
	return g.Rules[0].Body
}

// unread looks whether a text has a fault at its mark @ as the body of a parser's rule, or as that of each rule of another sort; a mark at its end is at the rule's own.
func unread(t *testing.T, s string, token bool) {
	t.Helper()
	if !token {
		faulty(t, head+"a : "+s+"; b : ;", api.ErrForm)
		return
	}
	for _, ahead := range []string{"A : ", "fragment A : ", "skip A : "} {
		faulty(t, head+"b : C ; "+ahead+s+"; C : ;", api.ErrForm)
	}
}

// P4.1: bodies that both a parser's rule and another one may have.
func TestBodies(t *testing.T) {
	a, b, c := Tok("A"), Tok("B"), Tok("C")
	for s, want := range map[string]api.Node{
		"":                         Seq(),
		"A":                        a,
		"A B":                      Seq(a, b),
		"A B C":                    Seq(a, b, c),
		"A | B":                    Alts(a, b),
		"A|B|C":                    Alts(a, b, c),
		"A B | C":                  Alts(Seq(a, b), c),
		"A | B C":                  Alts(a, Seq(b, c)),
		"|":                        Alts(Seq(), Seq()),
		"||":                       Alts(Seq(), Seq(), Seq()),
		"A |":                      Alts(a, Seq()),
		"| A":                      Alts(Seq(), a),
		"A | | B":                  Alts(a, Seq(), b),
		"()":                       Seq(),
		"(())":                     Seq(),
		"() ()":                    Seq(Seq(), Seq()),
		"() A":                     Seq(Seq(), a),
		"A ()":                     Seq(a, Seq()),
		"(|)":                      Alts(Seq(), Seq()),
		"() | A":                   Alts(Seq(), a),
		"(() | A)":                 Alts(Seq(), a),
		"(A)":                      a,
		"((A))":                    a,
		"(A B)":                    Seq(a, b),
		"((A) (B))":                Seq(a, b),
		"(A B) C":                  Seq(Seq(a, b), c),
		"A (B C)":                  Seq(a, Seq(b, c)),
		"(A) B (C)":                Seq(a, b, c),
		"(A | B) C":                Seq(Alts(a, b), c),
		"A (B | C)":                Seq(a, Alts(b, c)),
		"(A | B)":                  Alts(a, b),
		"(A | B) | C":              Alts(Alts(a, b), c),
		"A | (B | C)":              Alts(a, Alts(b, c)),
		"(A) | (B)":                Alts(a, b),
		"((A | (B C)))":            Alts(a, Seq(b, c)),
		"A?":                       Opt(a),
		"A*":                       Star(a),
		"A+":                       Plus(a),
		"A ?":                      Opt(a),
		"A? B* C+":                 Seq(Opt(a), Star(b), Plus(c)),
		"A B?":                     Seq(a, Opt(b)),
		"A | B?":                   Alts(a, Opt(b)),
		"(A)?":                     Opt(a),
		"()?":                      Opt(Seq()),
		"()*":                      Star(Seq()),
		"()+":                      Plus(Seq()),
		"(|)?":                     Opt(Alts(Seq(), Seq())),
		"(A B)*":                   Star(Seq(a, b)),
		"(A | B)+":                 Plus(Alts(a, b)),
		"(A?)?":                    Opt(Opt(a)),
		"((A?)*)+":                 Plus(Star(Opt(a))),
		"((A)?)":                   Opt(a),
		"(A?) B":                   Seq(Opt(a), b),
		"(A B)? (B | C)* | ()":     Alts(Seq(Opt(Seq(a, b)), Star(Alts(b, c))), Seq()),
		"Grammar Options Fragment": Seq(Tok("Grammar"), Tok("Options"), Tok("Fragment")),
		"A/**/B//;\n|C":            Alts(Seq(a, b), c),
		strings.Repeat("(", 500) + "A" + strings.Repeat(")", 500):       a, // brackets by themselves are no nodes
		strings.Repeat("(", 500) + "A" + strings.Repeat(")", 500) + "?": Opt(a),
	} {
		for _, token := range []bool{false, true} {
			if n := body(t, s, token); !nodes.Same(n, want) {
				t.Errorf("%.100s: %v; want %v", s, n, want)
			}
		}
	}
}

// P4.1: bodies of a parser's rule alone: names that begin small, whatever they are elsewhere; predicates, at each place where one may stand.
func TestParserBodies(t *testing.T) {
	a, b, c := Tok("A"), Ref("b"), Tok("C")
	for s, want := range map[string]api.Node{
		"b":                    b,
		"b B":                  Seq(b, Tok("B")),
		"b* | C":               Alts(Star(b), c),
		"bound states":         Seq(Ref("bound"), Ref("states")),
		"(A) =>":               Pred(a),
		"() =>":                Pred(Seq()),
		"(|) =>":               Pred(Alts(Seq(), Seq())),
		"(A | b) =>":           Pred(Alts(a, b)),
		"(A b) =>":             Pred(Seq(a, b)),
		"(A?) =>":              Pred(Opt(a)),
		"((A)) =>":             Pred(a),
		"(A) => b":             Seq(Pred(a), b),
		"(A)=>b C":             Seq(Pred(a), b, c),
		"(A) => ()":            Seq(Pred(a), Seq()),
		"(A) => (b C)":         Seq(Pred(a), Seq(b, c)),
		"(A) => (b)":           Seq(Pred(a), b),
		"(A) => (b)?":          Seq(Pred(a), Opt(b)),
		"(A) => (b | C)":       Seq(Pred(a), Alts(b, c)),
		"(A) => | b":           Alts(Pred(a), b),
		"b | (A) =>":           Alts(b, Pred(a)),
		"b | (A) => C | ":      Alts(b, Seq(Pred(a), c), Seq()),
		"(A) => b | (C) =>":    Alts(Seq(Pred(a), b), Pred(c)),
		"((A) =>)":             Pred(a),
		"((A) =>) b":           Seq(Pred(a), b),
		"((A) =>)?":            Opt(Pred(a)),
		"((A) =>)*":            Star(Pred(a)),
		"((A) =>)+":            Plus(Pred(a)),
		"((A) =>) =>":          Pred(Pred(a)),
		"((A) => b) =>":        Pred(Seq(Pred(a), b)),
		"((A) => b) => C":      Seq(Pred(Seq(Pred(a), b)), c),
		"(((A) =>)) => b":      Seq(Pred(Pred(a)), b),
		"((A) => | b) =>":      Pred(Alts(Pred(a), b)),
		"b ((A) => C)":         Seq(b, Seq(Pred(a), c)),
		"b ((A) => | C)":       Seq(b, Alts(Pred(a), c)),
		"b ((A) => C)* C":      Seq(b, Star(Seq(Pred(a), c)), c),
		"b ((A) =>)?":          Seq(b, Opt(Pred(a))),
		"(A) => ((b) => C)":    Seq(Pred(a), Seq(Pred(b), c)),
		"(A) => ((b) =>)?":     Seq(Pred(a), Opt(Pred(b))),
		"(A) C":                Seq(a, c), // no predicate without the mark
		"(A) (b)":              Seq(a, b),
		"(A) | (b)":            Alts(a, b),
		"((b) => C)? | (b | )": Alts(Opt(Seq(Pred(b), c)), Alts(b, Seq())),
	} {
		if n := body(t, s, false); !nodes.Same(n, want) {
			t.Errorf("%s: %v; want %v", s, n, want)
		}
	}
	for _, name := range []string{"grammar", "options", "fragment", "skip", "bound", "states", "a"} {
		if n := body(t, name+" | ("+name+") => "+name+"* A", false); !nodes.Same(n, Alts(Ref(name), Seq(Pred(Ref(name)), Star(Ref(name)), a))) {
			t.Errorf("%s: %v", name, n)
		}
	}
}

// P4.1: bodies of other rules: texts, sets, ranges, all runes.
func TestTokenBodies(t *testing.T) {
	all := Set(0, below, above, last)
	for s, want := range map[string]api.Node{
		"'a'":                         Lit("a"),
		"'abc'":                       Lit("abc"),
		`'\n\'\\\u{e9}'`:              Lit("\n'\\\u00e9"),
		"'a' 'b'":                     Seq(Lit("a"), Lit("b")),
		"'a'* | 'b'? 'c'+":            Alts(Star(Lit("a")), Seq(Opt(Lit("b")), Plus(Lit("c")))),
		"';' '|' '(' ')' '=>' '..'":   Seq(Lit(";"), Lit("|"), Lit("("), Lit(")"), Lit("=>"), Lit("..")), // texts that look like marks
		"'?' '*' '.' '~' 'A' 'a' '1'": Seq(Lit("?"), Lit("*"), Lit("."), Lit("~"), Lit("A"), Lit("a"), Lit("1")),
		"[a]":                         Set('a', 'a'),
		"[a-c]":                       Set('a', 'c'),
		"[xa-cb-da]":                  Set('x', 'x', 'a', 'c', 'b', 'd', 'a', 'a'), // as it is written
		`[\u{0}-\u{10ffff}]`:          Set(0, last),
		`[\u{d7ff}-\u{e000}]+`:        Plus(Set(below, above)),
		"[;|] [?]*":                   Seq(Set(';', ';', '|', '|'), Star(Set('?', '?'))),
		"'a'..'c'":                    Set('a', 'c'),
		"'a' .. 'a'":                  Set('a', 'a'),
		"'a'..'c'*":                   Star(Set('a', 'c')),
		"'a'..'c' 'd'..'e'":           Seq(Set('a', 'c'), Set('d', 'e')),
		"'x' 'a'..'c' 'x'":            Seq(Lit("x"), Set('a', 'c'), Lit("x")),
		"'ab' 'a'..'c' 'de'":          Seq(Lit("ab"), Set('a', 'c'), Lit("de")),
		"'.'..'.'":                    Set('.', '.'),
		`'\u{0}'..'\u{10ffff}'`:       Set(0, last),
		`'\u{d7ff}'..'\u{e000}'`:      Set(below, above),
		"'\u00e9'..'\u20ac'?":         Opt(Set(0xe9, 0x20ac)),
		"'\ufffd'..'\uffff'":          Set(0xfffd, 0xffff),
		".":                           all,
		".*":                          Star(all),
		". .":                         Seq(all, all),
		"'a' . 'b'":                   Seq(Lit("a"), all, Lit("b")),
		"(. | 'a')?":                  Opt(Alts(all, Lit("a"))),
		"~[a]":                        Set(0, 'a'-1, 'a'+1, below, above, last),
		"~[a]+":                       Plus(Set(0, 'a'-1, 'a'+1, below, above, last)),
		"~ /**/ [a-c]":                Set(0, 'a'-1, 'd', below, above, last),
		"A ~[a] [a]":                  Seq(Tok("A"), Set(0, 'a'-1, 'a'+1, below, above, last), Set('a', 'a')),
		"B 'b' | ([a-c] C)+":          Alts(Seq(Tok("B"), Lit("b")), Plus(Seq(Set('a', 'c'), Tok("C")))),
	} {
		if n := body(t, s, true); !nodes.Same(n, want) {
			t.Errorf("%s: %v; want %v", s, n, want)
		}
	}
}

// P4.1: `~` of ranges that lie one over the other, touch, or end at numbers that are no rune's.
func TestOthers(t *testing.T) {
	for s, want := range map[string]api.Node{
		`[\u{0}]`:                             Set(1, below, above, last),
		`[\u{10ffff}]`:                        Set(0, below, above, last-1),
		`[b-da-c]`:                            Set(0, 'a'-1, 'e', below, above, last),
		`[a-ad-dc-cb-b]`:                      Set(0, 'a'-1, 'e', below, above, last),
		`[a-zc-d]`:                            Set(0, 'a'-1, 'z'+1, below, above, last),
		`[c-da-z]`:                            Set(0, 'a'-1, 'z'+1, below, above, last),
		`[aaa]`:                               Set(0, 'a'-1, 'a'+1, below, above, last),
		`[ca]`:                                Set(0, 'a'-1, 'b', 'b', 'd', below, above, last),
		`[x-za-c]`:                            Set(0, 'a'-1, 'd', 'w', 'z'+1, below, above, last),
		`[\u{d7ff}]`:                          Set(0, below-1, above, last),
		`[\u{d7fe}]`:                          Set(0, below-2, below, below, above, last),
		`[\u{e000}]`:                          Set(0, below, above+1, last),
		`[\u{e001}]`:                          Set(0, below, above, above, above+2, last),
		`[\u{d7ff}-\u{e000}]`:                 Set(0, below-1, above+1, last),
		`[\u{d7ff}\u{e000}]`:                  Set(0, below-1, above+1, last),
		`[a-\u{e000}]`:                        Set(0, 'a'-1, above+1, last),
		`[\u{d7ff}-\u{ffff}]`:                 Set(0, below-1, 0x10000, last),
		`[\u{0}-\u{d7ff}]`:                    Set(above, last),
		`[\u{e000}-\u{10ffff}]`:               Set(0, below),
		`[\u{0}-\u{10fffe}]`:                  Set(last, last),
		`[\u{1}-\u{10ffff}]`:                  Set(0, 0),
		`[\u{0}-\u{d7fe}\u{e000}-\u{10ffff}]`: Set(below, below),
		`[\u{e001}-\u{10ffff}\u{0}-\u{d7ff}]`: Set(above, above),
		`[b-\u{10ffff}\u{0}-` + "`]":          Set('a', 'a'),
		`[\u{0}-\u{fffe}\u{10000}-\u{10ffff}a-z\n]`: Set(0xffff, 0xffff),
	} {
		if n := body(t, "~"+s, true); !nodes.Same(n, want) {
			t.Errorf("~%s: %v; want %v", s, n, want)
		}
	}
	for _, s := range []string{
		`[\u{0}-\u{10ffff}]`, `[\u{0}-\u{d7ff}\u{e000}-\u{10ffff}]`, `[\u{e000}-\u{10ffff}\u{0}-\u{d7ff}]`, `[a-\u{10ffff}\u{0}-a]`, `[b-\u{10ffff}\u{0}-a]`, `[\u{0}-\u{d7fe}\u{e001}-\u{10ffff}\u{d7ff}-\u{e000}]`,
		`[\u{0}-\u{10ffff}a-z]`, `[a-z\u{0}-\u{10ffff}]`, `[\u{0}b-\u{10ffff}\u{1}-a]`,
	} {
		unread(t, "~ @"+s, true)
		unread(t, "'a' | (~@"+s+"* 'b')", true)
		if n := body(t, s, true); n.Kind != api.KSet { // without ~ it may be
			t.Errorf("%s: %v", s, n)
		}
	}
}

// P4.1: `~` of many sets: no rune is in both, each in one of them; ranges rise, and no two could be one.
func TestOthersAreTheOthers(t *testing.T) {
	ends := []rune{0, 1, 'a', 'b', 'c', 'd', below - 1, below, above, above + 1, last - 1, last}
	var ranges []string
	for i, low := range ends {
		for _, high := range ends[i:] {
			ranges = append(ranges, nodes.Text(Set(low, high)))
		}
	}
	for i, x := range ranges {
		for j, y := range ranges {
			z := ranges[(i*7+j*13)%len(ranges)]
			s := "[" + strings.Trim(x, "[]") + strings.Trim(y, "[]") + strings.Trim(z, "[]") + "]"
			n := body(t, s, true)
			g, fault := grams.Read(head + "A : ~" + s + ";")
			if fault.E != api.OK {
				if fault.E != api.ErrForm || fault.At.At != len(head)+5 || holds(n.Set, 0) < 1 || slices.ContainsFunc(ends, func(r rune) bool { return holds(n.Set, r) == 0 }) {
					t.Fatalf("~%s: fault %v", s, fault)
				}
				continue
			}
			apart(t, s, n.Set, g.Rules[0].Body.Set)
		}
	}
}

// holds tells in how many ranges a rune is.
func holds(l []api.Range, r rune) (count int) {
	for _, k := range l {
		if k.Low <= r && r <= k.High {
			count++
		}
	}
	return count
}

// apart looks whether ranges are as they should be for the other ones.
func apart(t *testing.T, s string, l, others []api.Range) {
	t.Helper()
	ends := []rune{0, below, above, last} // what is between ends is as they are, or as what is next to them
	for _, k := range append(slices.Clone(l), others...) {
		ends = append(ends, k.Low-1, k.Low, k.High, k.High+1)
	}
	for _, r := range ends {
		isRune := 0 <= r && r <= below || above <= r && r <= last
		if in := holds(others, r); in != 0 != (isRune && holds(l, r) == 0) || in > 1 {
			t.Fatalf("~%s: %v: rune %x is in %d of them", s, others, r, in)
		}
	}
	for i, k := range others {
		if k.High < k.Low || i > 0 && k.Low <= others[i-1].High+1 || k.Low <= below && k.High >= above {
			t.Fatalf("~%s: %v: do not rise apart", s, others)
		}
	}
}

// P4.1: words that may not stand in a body, whichever rule's.
func TestUnread(t *testing.T) {
	for _, s := range []string{
		"@?", "@*", "@+", "A?@?", "A?@*", "A*@+", "A+@?", "A ? @?", "(A?)?@?", "A | @?", "(@?)", "()?@+", "A (B?@*)", "(A)*@*",
		"@)", "A @)", "(A)@)", "A | @)", "(@", "(A@", "((A)@", "A (@", "(A | @", "(A | (B)? @", "(@; B)", "A @: B", "@:", "@=", "@{", "A @}", "@1", "A @007", "A @=", "()@{",
		"@=>", "A @=>", "A | @=>", "(@=>)", "(A B) C @=>", "(A)? @=>", "A (B) @=>", "(A | (B) C @=>)", "() () @=>", "A B (C) @=>", "(A)+ (B) @=>",
	} {
		unread(t, s, false)
		unread(t, s, true)
	}
}

// P4.1: words that may not stand in a parser's rule.
func TestUnreadInParserRules(t *testing.T) {
	for _, s := range []string{
		"@'b'", "A @'b'", "(@'b')", "A | @'bc'", "(A) => @'b'", "(@'b') =>", "@[b]", "b @[b]", "@~[b]", "b* @~ [b]", "@.", "A @.", "A @..", "@.. 'b'", "@'a'..'b'", "(A @.)", "@~ A", "@~", "(@~[b] | )", "A? @'b'", "A (b | @[c])", "(A) => @.", "b @~",
		"@';'", "(A@')'", "(A) @'=>'", "A @'?'", "A @'|' B", "@'A'", "@'b'", "@[;]", // texts and sets that look like marks and names
		"b @=>", "(A) => @=>", "(A) => (B) @=>", "(A) => (B) @=> C", "((A)) B @=>", "(A) => @?", "(A) => @*", "(A) => b?@+", "(A) => b (C) @=>", "(A | b) => | c (B) @=>", "((A) =>)? @=>", "b ((A) =>) @=>", "(A) => ((B) => C)? (C) @=>",
	} {
		unread(t, s, false)
	}
}

// P4.1: words that may not stand in a rule of another sort.
func TestUnreadInOtherRules(t *testing.T) {
	for _, s := range []string{
		"@b", "A @b", "A | @b", "(@b)", "@b?", "@grammar", "@options", "@fragment", "@skip", "'a' @a", "~ @b", "'a' .. @b", "[a] @bound", "B* (C @b)",
		"(A) @=>", "('a') @=> 'b'", "() @=>", "A | (B) @=> C", "((A) @=>)", "'a' @=>", "[a] @=>", ". @=>",
		"@.. 'c'", "A @.. 'c'", "[a] @.. 'c'", "~[a] @.. 'c'", ". @.. 'c'", "('a') @.. 'c'", "'a'? @.. 'c'", "'a'..'b' @.. 'c'",
		"'ab' @.. 'c'", "'ab' @.. 'cd'", "'ab' @..", "'a' 'bc' @.. 'd'", "'\u00e9\u00e9' @.. '\u00e9'",
		"'a' .. @'bc'", "'b' .. @'ab'", "'b' .. @'a'", `'\u{e000}' .. @'\u{d7ff}'`, "'a' .. @[b]", "'a' .. @B", "'a' .. @.", "'a' .. @..", "'a' .. @~[b]", "'a' .. @('b')", "'a' .. @?", "'a' .. @| 'b'", "'a'..@1", "('a' .. @)", "'a' .. @",
		"~@'a'", "~@A", "~@.", "~@~[a]", "~@(", "~@([a])", "~@?", "~@| [a]", "(~@)", "~@1", "~@", "A ~@",
		"'a'*@*", "[a]+@?", ".?@?", "~[a]*@*", "'a'..'b'+@+",
	} {
		unread(t, s, true)
	}
}

// P4.1: what is no word is told ahead of all that may not stand.
func TestNoWords(t *testing.T) {
	for s, e := range map[string]api.Errno{
		"grammar G; A : @''..'b' ;": api.ErrForm,
		"grammar G; A : 'a'..@'' ;": api.ErrForm,
		"grammar G; A : b ~@[] ;":   api.ErrForm,
		"G ; ; @#":                  api.ErrForm,
		"grammar G; : @[b-a]":       api.ErrForm,
		"; @/* ":                    api.ErrForm,
		"; ' @\xff":                 api.ErrForm,
		"grammar G; options { bound = 0; } @1234567890":           api.ErrLimit,
		"grammar @" + strings.Repeat("G", api.MaxName+1):          api.ErrLimit,
		"grammar G; ; A : @" + strings.Repeat("B", api.MaxName+1): api.ErrLimit,
		"@grammar G; \xff" + strings.Repeat("\n", api.MaxText-11): api.ErrLimit,
	} {
		faulty(t, s, e)
	}
}
