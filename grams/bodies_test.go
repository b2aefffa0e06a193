package grams_test

import (
	"slices"
	"strings"
	"testing"

	"harbinger/api"
	"harbinger/grams"
	"harbinger/nodes"
)

// body tells what a text is read as in a parser's rule, or in each rule of another sort.
func body(t *testing.T, s string, token bool) api.Node {
	t.Helper()
	if !token {
		return fine(t, head+"a : "+s+" ;").Rules[0].Body
	}
	g := fine(t, head+"A : "+s+" ; fragment B : "+s+" ; skip C : "+s+" ;")
	for _, r := range g.Rules {
		if !nodes.Same(r.Body, g.Rules[0].Body) {
			t.Errorf("%s: %v in one sort, %v in another one", s, g.Rules[0].Body, r.Body)
		}
	}
	return g.Rules[0].Body
}

// unread looks whether a text has a fault at its mark @ as the body of a parser's rule, or as that of each rule of another sort; a mark at its end is at the rule's own.
func unread(t *testing.T, s string, token bool) {
	t.Helper()
	if !token {
		faulty(t, head+"a : "+s+"; b : ;", api.ErrForm)
		return
	}
	for _, ahead := range []string{"A : ", "fragment A : ", "skip A : "} {
		faulty(t, head+"b : C ; "+ahead+s+"; C : ;", api.ErrForm)
	}
}

// P4.1: bodies that both a parser's rule and another one may have.
func TestBodies(t *testing.T) {
	a, b, c := tok("A"), tok("B"), tok("C")
	for s, want := range map[string]api.Node{
		"":                         seq(),
		"A":                        a,
		"A B":                      seq(a, b),
		"A B C":                    seq(a, b, c),
		"A | B":                    alts(a, b),
		"A|B|C":                    alts(a, b, c),
		"A B | C":                  alts(seq(a, b), c),
		"A | B C":                  alts(a, seq(b, c)),
		"|":                        alts(seq(), seq()),
		"||":                       alts(seq(), seq(), seq()),
		"A |":                      alts(a, seq()),
		"| A":                      alts(seq(), a),
		"A | | B":                  alts(a, seq(), b),
		"()":                       seq(),
		"(())":                     seq(),
		"() ()":                    seq(seq(), seq()),
		"() A":                     seq(seq(), a),
		"A ()":                     seq(a, seq()),
		"(|)":                      alts(seq(), seq()),
		"() | A":                   alts(seq(), a),
		"(() | A)":                 alts(seq(), a),
		"(A)":                      a,
		"((A))":                    a,
		"(A B)":                    seq(a, b),
		"((A) (B))":                seq(a, b),
		"(A B) C":                  seq(seq(a, b), c),
		"A (B C)":                  seq(a, seq(b, c)),
		"(A) B (C)":                seq(a, b, c),
		"(A | B) C":                seq(alts(a, b), c),
		"A (B | C)":                seq(a, alts(b, c)),
		"(A | B)":                  alts(a, b),
		"(A | B) | C":              alts(alts(a, b), c),
		"A | (B | C)":              alts(a, alts(b, c)),
		"(A) | (B)":                alts(a, b),
		"((A | (B C)))":            alts(a, seq(b, c)),
		"A?":                       opt(a),
		"A*":                       star(a),
		"A+":                       plus(a),
		"A ?":                      opt(a),
		"A? B* C+":                 seq(opt(a), star(b), plus(c)),
		"A B?":                     seq(a, opt(b)),
		"A | B?":                   alts(a, opt(b)),
		"(A)?":                     opt(a),
		"()?":                      opt(seq()),
		"()*":                      star(seq()),
		"()+":                      plus(seq()),
		"(|)?":                     opt(alts(seq(), seq())),
		"(A B)*":                   star(seq(a, b)),
		"(A | B)+":                 plus(alts(a, b)),
		"(A?)?":                    opt(opt(a)),
		"((A?)*)+":                 plus(star(opt(a))),
		"((A)?)":                   opt(a),
		"(A?) B":                   seq(opt(a), b),
		"(A B)? (B | C)* | ()":     alts(seq(opt(seq(a, b)), star(alts(b, c))), seq()),
		"Grammar Options Fragment": seq(tok("Grammar"), tok("Options"), tok("Fragment")),
		"A/**/B//;\n|C":            alts(seq(a, b), c),
		strings.Repeat("(", 500) + "A" + strings.Repeat(")", 500):       a, // brackets by themselves are no nodes
		strings.Repeat("(", 500) + "A" + strings.Repeat(")", 500) + "?": opt(a),
	} {
		for _, token := range []bool{false, true} {
			if n := body(t, s, token); !nodes.Same(n, want) {
				t.Errorf("%.100s: %v; want %v", s, n, want)
			}
		}
	}
}

// P4.1: bodies of a parser's rule alone: names that begin small, whatever they are elsewhere; predicates, at each place where one may stand.
func TestParserBodies(t *testing.T) {
	a, b, c := tok("A"), ref("b"), tok("C")
	for s, want := range map[string]api.Node{
		"b":                    b,
		"b B":                  seq(b, tok("B")),
		"b* | C":               alts(star(b), c),
		"bound states":         seq(ref("bound"), ref("states")),
		"(A) =>":               pred(a),
		"() =>":                pred(seq()),
		"(|) =>":               pred(alts(seq(), seq())),
		"(A | b) =>":           pred(alts(a, b)),
		"(A b) =>":             pred(seq(a, b)),
		"(A?) =>":              pred(opt(a)),
		"((A)) =>":             pred(a),
		"(A) => b":             seq(pred(a), b),
		"(A)=>b C":             seq(pred(a), b, c),
		"(A) => ()":            seq(pred(a), seq()),
		"(A) => (b C)":         seq(pred(a), seq(b, c)),
		"(A) => (b)":           seq(pred(a), b),
		"(A) => (b)?":          seq(pred(a), opt(b)),
		"(A) => (b | C)":       seq(pred(a), alts(b, c)),
		"(A) => | b":           alts(pred(a), b),
		"b | (A) =>":           alts(b, pred(a)),
		"b | (A) => C | ":      alts(b, seq(pred(a), c), seq()),
		"(A) => b | (C) =>":    alts(seq(pred(a), b), pred(c)),
		"((A) =>)":             pred(a),
		"((A) =>) b":           seq(pred(a), b),
		"((A) =>)?":            opt(pred(a)),
		"((A) =>)*":            star(pred(a)),
		"((A) =>)+":            plus(pred(a)),
		"((A) =>) =>":          pred(pred(a)),
		"((A) => b) =>":        pred(seq(pred(a), b)),
		"((A) => b) => C":      seq(pred(seq(pred(a), b)), c),
		"(((A) =>)) => b":      seq(pred(pred(a)), b),
		"((A) => | b) =>":      pred(alts(pred(a), b)),
		"b ((A) => C)":         seq(b, seq(pred(a), c)),
		"b ((A) => | C)":       seq(b, alts(pred(a), c)),
		"b ((A) => C)* C":      seq(b, star(seq(pred(a), c)), c),
		"b ((A) =>)?":          seq(b, opt(pred(a))),
		"(A) => ((b) => C)":    seq(pred(a), seq(pred(b), c)),
		"(A) => ((b) =>)?":     seq(pred(a), opt(pred(b))),
		"(A) C":                seq(a, c), // no predicate without the mark
		"(A) (b)":              seq(a, b),
		"(A) | (b)":            alts(a, b),
		"((b) => C)? | (b | )": alts(opt(seq(pred(b), c)), alts(b, seq())),
	} {
		if n := body(t, s, false); !nodes.Same(n, want) {
			t.Errorf("%s: %v; want %v", s, n, want)
		}
	}
	for _, name := range []string{"grammar", "options", "fragment", "skip", "bound", "states", "a"} {
		if n := body(t, name+" | ("+name+") => "+name+"* A", false); !nodes.Same(n, alts(ref(name), seq(pred(ref(name)), star(ref(name)), a))) {
			t.Errorf("%s: %v", name, n)
		}
	}
}

// P4.1: bodies of other rules: texts, sets, ranges, all runes.
func TestTokenBodies(t *testing.T) {
	all := set(0, below, above, last)
	for s, want := range map[string]api.Node{
		"'a'":                         lit("a"),
		"'abc'":                       lit("abc"),
		`'\n\'\\\u{e9}'`:              lit("\n'\\\u00e9"),
		"'a' 'b'":                     seq(lit("a"), lit("b")),
		"'a'* | 'b'? 'c'+":            alts(star(lit("a")), seq(opt(lit("b")), plus(lit("c")))),
		"';' '|' '(' ')' '=>' '..'":   seq(lit(";"), lit("|"), lit("("), lit(")"), lit("=>"), lit("..")), // texts that look like marks
		"'?' '*' '.' '~' 'A' 'a' '1'": seq(lit("?"), lit("*"), lit("."), lit("~"), lit("A"), lit("a"), lit("1")),
		"[a]":                         set('a', 'a'),
		"[a-c]":                       set('a', 'c'),
		"[xa-cb-da]":                  set('x', 'x', 'a', 'c', 'b', 'd', 'a', 'a'), // as it is written
		`[\u{0}-\u{10ffff}]`:          set(0, last),
		`[\u{d7ff}-\u{e000}]+`:        plus(set(below, above)),
		"[;|] [?]*":                   seq(set(';', ';', '|', '|'), star(set('?', '?'))),
		"'a'..'c'":                    set('a', 'c'),
		"'a' .. 'a'":                  set('a', 'a'),
		"'a'..'c'*":                   star(set('a', 'c')),
		"'a'..'c' 'd'..'e'":           seq(set('a', 'c'), set('d', 'e')),
		"'x' 'a'..'c' 'x'":            seq(lit("x"), set('a', 'c'), lit("x")),
		"'ab' 'a'..'c' 'de'":          seq(lit("ab"), set('a', 'c'), lit("de")),
		"'.'..'.'":                    set('.', '.'),
		`'\u{0}'..'\u{10ffff}'`:       set(0, last),
		`'\u{d7ff}'..'\u{e000}'`:      set(below, above),
		"'\u00e9'..'\u20ac'?":         opt(set(0xe9, 0x20ac)),
		"'\ufffd'..'\uffff'":          set(0xfffd, 0xffff),
		".":                           all,
		".*":                          star(all),
		". .":                         seq(all, all),
		"'a' . 'b'":                   seq(lit("a"), all, lit("b")),
		"(. | 'a')?":                  opt(alts(all, lit("a"))),
		"~[a]":                        set(0, 'a'-1, 'a'+1, below, above, last),
		"~[a]+":                       plus(set(0, 'a'-1, 'a'+1, below, above, last)),
		"~ /**/ [a-c]":                set(0, 'a'-1, 'd', below, above, last),
		"A ~[a] [a]":                  seq(tok("A"), set(0, 'a'-1, 'a'+1, below, above, last), set('a', 'a')),
		"B 'b' | ([a-c] C)+":          alts(seq(tok("B"), lit("b")), plus(seq(set('a', 'c'), tok("C")))),
	} {
		if n := body(t, s, true); !nodes.Same(n, want) {
			t.Errorf("%s: %v; want %v", s, n, want)
		}
	}
}

// P4.1: `~` of ranges that lie one over the other, touch, or end at numbers that are no rune's.
func TestOthers(t *testing.T) {
	for s, want := range map[string]api.Node{
		`[\u{0}]`:                             set(1, below, above, last),
		`[\u{10ffff}]`:                        set(0, below, above, last-1),
		`[b-da-c]`:                            set(0, 'a'-1, 'e', below, above, last),
		`[a-ad-dc-cb-b]`:                      set(0, 'a'-1, 'e', below, above, last),
		`[a-zc-d]`:                            set(0, 'a'-1, 'z'+1, below, above, last),
		`[c-da-z]`:                            set(0, 'a'-1, 'z'+1, below, above, last),
		`[aaa]`:                               set(0, 'a'-1, 'a'+1, below, above, last),
		`[ca]`:                                set(0, 'a'-1, 'b', 'b', 'd', below, above, last),
		`[x-za-c]`:                            set(0, 'a'-1, 'd', 'w', 'z'+1, below, above, last),
		`[\u{d7ff}]`:                          set(0, below-1, above, last),
		`[\u{d7fe}]`:                          set(0, below-2, below, below, above, last),
		`[\u{e000}]`:                          set(0, below, above+1, last),
		`[\u{e001}]`:                          set(0, below, above, above, above+2, last),
		`[\u{d7ff}-\u{e000}]`:                 set(0, below-1, above+1, last),
		`[\u{d7ff}\u{e000}]`:                  set(0, below-1, above+1, last),
		`[a-\u{e000}]`:                        set(0, 'a'-1, above+1, last),
		`[\u{d7ff}-\u{ffff}]`:                 set(0, below-1, 0x10000, last),
		`[\u{0}-\u{d7ff}]`:                    set(above, last),
		`[\u{e000}-\u{10ffff}]`:               set(0, below),
		`[\u{0}-\u{10fffe}]`:                  set(last, last),
		`[\u{1}-\u{10ffff}]`:                  set(0, 0),
		`[\u{0}-\u{d7fe}\u{e000}-\u{10ffff}]`: set(below, below),
		`[\u{e001}-\u{10ffff}\u{0}-\u{d7ff}]`: set(above, above),
		`[b-\u{10ffff}\u{0}-` + "`]":          set('a', 'a'),
		`[\u{0}-\u{fffe}\u{10000}-\u{10ffff}a-z\n]`: set(0xffff, 0xffff),
	} {
		if n := body(t, "~"+s, true); !nodes.Same(n, want) {
			t.Errorf("~%s: %v; want %v", s, n, want)
		}
	}
	for _, s := range []string{
		`[\u{0}-\u{10ffff}]`, `[\u{0}-\u{d7ff}\u{e000}-\u{10ffff}]`, `[\u{e000}-\u{10ffff}\u{0}-\u{d7ff}]`, `[a-\u{10ffff}\u{0}-a]`, `[b-\u{10ffff}\u{0}-a]`, `[\u{0}-\u{d7fe}\u{e001}-\u{10ffff}\u{d7ff}-\u{e000}]`,
		`[\u{0}-\u{10ffff}a-z]`, `[a-z\u{0}-\u{10ffff}]`, `[\u{0}b-\u{10ffff}\u{1}-a]`,
	} {
		unread(t, "~ @"+s, true)
		unread(t, "'a' | (~@"+s+"* 'b')", true)
		if n := body(t, s, true); n.Kind != api.KSet { // without ~ it may be
			t.Errorf("%s: %v", s, n)
		}
	}
}

// P4.1: `~` of many sets: no rune is in both, each in one of them; ranges rise, and no two could be one.
func TestOthersAreTheOthers(t *testing.T) {
	ends := []rune{0, 1, 'a', 'b', 'c', 'd', below - 1, below, above, above + 1, last - 1, last}
	var ranges []string
	for i, low := range ends {
		for _, high := range ends[i:] {
			ranges = append(ranges, nodes.Text(set(low, high)))
		}
	}
	for i, x := range ranges {
		for j, y := range ranges {
			z := ranges[(i*7+j*13)%len(ranges)]
			s := "[" + strings.Trim(x, "[]") + strings.Trim(y, "[]") + strings.Trim(z, "[]") + "]"
			n := body(t, s, true)
			g, fault := grams.Read(head + "A : ~" + s + ";")
			if fault.E != api.OK {
				if fault.E != api.ErrForm || fault.At.At != len(head)+5 || holds(n.Set, 0) < 1 || slices.ContainsFunc(ends, func(r rune) bool { return holds(n.Set, r) == 0 }) {
					t.Fatalf("~%s: fault %v", s, fault)
				}
				continue
			}
			apart(t, s, n.Set, g.Rules[0].Body.Set)
		}
	}
}

// holds tells in how many ranges a rune is.
func holds(l []api.Range, r rune) (count int) {
	for _, k := range l {
		if k.Low <= r && r <= k.High {
			count++
		}
	}
	return count
}

// apart looks whether ranges are as they should be for the other ones.
func apart(t *testing.T, s string, l, others []api.Range) {
	t.Helper()
	ends := []rune{0, below, above, last} // what is between ends is as they are, or as what is next to them
	for _, k := range append(slices.Clone(l), others...) {
		ends = append(ends, k.Low-1, k.Low, k.High, k.High+1)
	}
	for _, r := range ends {
		isRune := 0 <= r && r <= below || above <= r && r <= last
		if in := holds(others, r); in != 0 != (isRune && holds(l, r) == 0) || in > 1 {
			t.Fatalf("~%s: %v: rune %x is in %d of them", s, others, r, in)
		}
	}
	for i, k := range others {
		if k.High < k.Low || i > 0 && k.Low <= others[i-1].High+1 || k.Low <= below && k.High >= above {
			t.Fatalf("~%s: %v: do not rise apart", s, others)
		}
	}
}

// P4.1: words that may not stand in a body, whichever rule's.
func TestUnread(t *testing.T) {
	for _, s := range []string{
		"@?", "@*", "@+", "A?@?", "A?@*", "A*@+", "A+@?", "A ? @?", "(A?)?@?", "A | @?", "(@?)", "()?@+", "A (B?@*)", "(A)*@*",
		"@)", "A @)", "(A)@)", "A | @)", "(@", "(A@", "((A)@", "A (@", "(A | @", "(A | (B)? @", "(@; B)", "A @: B", "@:", "@=", "@{", "A @}", "@1", "A @007", "A @=", "()@{",
		"@=>", "A @=>", "A | @=>", "(@=>)", "(A B) C @=>", "(A)? @=>", "A (B) @=>", "(A | (B) C @=>)", "() () @=>", "A B (C) @=>", "(A)+ (B) @=>",
	} {
		unread(t, s, false)
		unread(t, s, true)
	}
}

// P4.1: words that may not stand in a parser's rule.
func TestUnreadInParserRules(t *testing.T) {
	for _, s := range []string{
		"@'b'", "A @'b'", "(@'b')", "A | @'bc'", "(A) => @'b'", "(@'b') =>", "@[b]", "b @[b]", "@~[b]", "b* @~ [b]", "@.", "A @.", "A @..", "@.. 'b'", "@'a'..'b'", "(A @.)", "@~ A", "@~", "(@~[b] | )", "A? @'b'", "A (b | @[c])", "(A) => @.", "b @~",
		"@';'", "(A@')'", "(A) @'=>'", "A @'?'", "A @'|' B", "@'A'", "@'b'", "@[;]", // texts and sets that look like marks and names
		"b @=>", "(A) => @=>", "(A) => (B) @=>", "(A) => (B) @=> C", "((A)) B @=>", "(A) => @?", "(A) => @*", "(A) => b?@+", "(A) => b (C) @=>", "(A | b) => | c (B) @=>", "((A) =>)? @=>", "b ((A) =>) @=>", "(A) => ((B) => C)? (C) @=>",
	} {
		unread(t, s, false)
	}
}

// P4.1: words that may not stand in a rule of another sort.
func TestUnreadInOtherRules(t *testing.T) {
	for _, s := range []string{
		"@b", "A @b", "A | @b", "(@b)", "@b?", "@grammar", "@options", "@fragment", "@skip", "'a' @a", "~ @b", "'a' .. @b", "[a] @bound", "B* (C @b)",
		"(A) @=>", "('a') @=> 'b'", "() @=>", "A | (B) @=> C", "((A) @=>)", "'a' @=>", "[a] @=>", ". @=>",
		"@.. 'c'", "A @.. 'c'", "[a] @.. 'c'", "~[a] @.. 'c'", ". @.. 'c'", "('a') @.. 'c'", "'a'? @.. 'c'", "'a'..'b' @.. 'c'",
		"'ab' @.. 'c'", "'ab' @.. 'cd'", "'ab' @..", "'a' 'bc' @.. 'd'", "'\u00e9\u00e9' @.. '\u00e9'",
		"'a' .. @'bc'", "'b' .. @'ab'", "'b' .. @'a'", `'\u{e000}' .. @'\u{d7ff}'`, "'a' .. @[b]", "'a' .. @B", "'a' .. @.", "'a' .. @..", "'a' .. @~[b]", "'a' .. @('b')", "'a' .. @?", "'a' .. @| 'b'", "'a'..@1", "('a' .. @)", "'a' .. @",
		"~@'a'", "~@A", "~@.", "~@~[a]", "~@(", "~@([a])", "~@?", "~@| [a]", "(~@)", "~@1", "~@", "A ~@",
		"'a'*@*", "[a]+@?", ".?@?", "~[a]*@*", "'a'..'b'+@+",
	} {
		unread(t, s, true)
	}
}

// P4.1: what is no word is told ahead of all that may not stand.
func TestNoWords(t *testing.T) {
	for s, e := range map[string]api.Errno{
		"grammar G; A : @''..'b' ;": api.ErrForm,
		"grammar G; A : 'a'..@'' ;": api.ErrForm,
		"grammar G; A : b ~@[] ;":   api.ErrForm,
		"G ; ; @#":                  api.ErrForm,
		"grammar G; : @[b-a]":       api.ErrForm,
		"; @/* ":                    api.ErrForm,
		"; ' @\xff":                 api.ErrForm,
		"grammar G; options { bound = 0; } @1234567890":           api.ErrLimit,
		"grammar @" + strings.Repeat("G", api.MaxName+1):          api.ErrLimit,
		"grammar G; ; A : @" + strings.Repeat("B", api.MaxName+1): api.ErrLimit,
		"@grammar G; \xff" + strings.Repeat("\n", api.MaxText-11): api.ErrLimit,
	} {
		faulty(t, s, e)
	}
}
