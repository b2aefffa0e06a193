package grams_test

import (
	"slices"
	"strconv"
	"strings"
	"testing"

	"harbinger/api"
	"harbinger/grams"
	. "harbinger/made"
	"harbinger/nodes"
	"harbinger/scans"
)

// P4.1: just as many rules as may be, and one more, which is told at its first word, whatever that is.
func TestManyRules(t *testing.T) {
	var b strings.Builder
	b.WriteString(head)
	for i := range api.MaxRules {
		b.WriteString([]string{"a", "A", "fragment A", "skip A"}[i%4] + strconv.Itoa(i) + " : B ;\n")
	}
	full := b.String()
	g := fine(t, full)
	if len(g.Rules) != api.MaxRules {
		t.Errorf("%d rules", len(g.Rules))
	}
	for i, r := range g.Rules {
		if want := []string{"a", "A", "A", "A"}[i%4] + strconv.Itoa(i); r.Name != want || int(r.Sort) != i%4 || !nodes.Same(r.Body, Tok("B")) {
			t.Errorf("rule %d: %v", i, r)
		}
	}
	fine(t, full+" // more : of them ;")
	for _, s := range []string{"a : B ;", "A : 'b' ;", "fragment A : ;", "skip A : ;", "fragment", "a", "grammar", "options", ";", ":", "'a'", "[a]", "1", "=>", "..", "}", "(", "? : ?"} {
		faulty(t, full+"@"+s, api.ErrLimit)
		faulty(t, full+"\n/* \u00e9 */ @"+s, api.ErrLimit)
	}
	few := head + strings.Join(strings.SplitAfter(full[len(head):], ";\n")[1:], "") // one less
	if g := fine(t, few+"a : ;"); len(g.Rules) != api.MaxRules {
		t.Errorf("%d rules", len(g.Rules))
	}
	faulty(t, few+"a : B ; @a : B ;", api.ErrLimit)
	faulty(t, few+"a : B @", api.ErrForm)
	faulty(t, few+"@fragment A : "+wide(api.MaxAlts+1)+" ; a : B ;", api.ErrLimit)
}

// wide is so many alternatives.
func wide(count int) string {
	return strings.Repeat("A | ", count-1) + "A"
}

// deep is a body that is so many nodes deep.
func deep(levels int) string {
	return strings.Repeat("(", levels-1) + "A" + strings.Repeat(")?", levels-1)
}

// long is a body of so many nodes.
func long(count int) string {
	return strings.Repeat("A ", count-1)
}

// P4.1: just as many nodes, as deep, as many alternatives as may be, and one more of each.
func TestBodiesLimits(t *testing.T) {
	for _, k := range []struct{ s, more string }{
		{wide(api.MaxAlts), wide(api.MaxAlts + 1)},
		{"(" + wide(api.MaxAlts) + ")* | B", "(" + wide(api.MaxAlts+1) + ")* | B"},
		{strings.Repeat("|", api.MaxAlts-1), strings.Repeat("|", api.MaxAlts)},
		{deep(api.MaxDeep), deep(api.MaxDeep + 1)},
		{"B | " + deep(api.MaxDeep-1), "B | " + deep(api.MaxDeep)},
		{"B " + deep(api.MaxDeep-1) + " C", "B " + deep(api.MaxDeep) + " C"},
		{"((" + deep(api.MaxDeep) + "))", "((" + deep(api.MaxDeep+1) + "))"},
		{long(api.MaxNodes), long(api.MaxNodes + 1)},
		{strings.Repeat("()", api.MaxNodes-1), strings.Repeat("()", api.MaxNodes)},
		{"(" + long(api.MaxNodes-2) + ") B", "(" + long(api.MaxNodes-1) + ") B"},
		{strings.Repeat("A? ", api.MaxNodes/2-1) + " A", strings.Repeat("A? ", api.MaxNodes/2-1) + " A B"},
		{wide(20) + " | " + long(api.MaxNodes-21), wide(20) + " | " + long(api.MaxNodes-20)},
	} {
		for _, ahead := range []string{"@a : ", "@A : ", "@fragment A : ", "@skip /**/ A : "} {
			g := fine(t, head+ahead[1:]+k.s+" ; b : ;")
			if len(g.Rules) != 2 || nodes.Count(g.Rules[0].Body) > api.MaxNodes {
				t.Errorf("%.50s: %d rules", k.s, len(g.Rules))
			}
			for _, s := range []string{head, head + "options { bound = 7; }\n", head + "b : B ;\n skip B : 'b' ; \n\t"} {
				faulty(t, s+ahead+k.more+";", api.ErrLimit)
				faulty(t, s+ahead+k.more+"; b", api.ErrLimit)
				faulty(t, s+strings.TrimPrefix(ahead, "@")+k.more+"@", api.ErrForm) // that is looked at behind its end
				faulty(t, s+strings.TrimPrefix(ahead, "@")+k.more+" @: ;", api.ErrForm)
			}
		}
	}
	for s, count := range map[string]int{wide(api.MaxAlts): 33, deep(api.MaxDeep): 64, long(api.MaxNodes): 2048} {
		if n := body(t, s, false); nodes.Count(n) != count {
			t.Errorf("%.50s: %d nodes", s, nodes.Count(n))
		}
	}
	faulty(t, head+"@a : (A) => "+long(api.MaxNodes-1)+";", api.ErrLimit) // the predicate and what is in it count too
	fine(t, head+"a : (A) => "+long(api.MaxNodes-2)+";")
	fine(t, head+"a : (A) => "+long(api.MaxNodes-2)+"; A : "+long(api.MaxNodes)+"; b : "+deep(api.MaxDeep)+";") // each rule by itself
	fine(t, head+"A : '"+strings.Repeat("x", 60000)+"' ;")
	if n := body(t, "["+strings.Repeat("x", 20000)+"]", true); len(n.Set) != 20000 {
		t.Errorf("%d ranges", len(n.Set))
	}
	if n := body(t, "~["+strings.Repeat("x", 20000)+"]", true); !nodes.Same(n, Set(0, 'x'-1, 'x'+1, below, above, last)) {
		t.Errorf("%v", n)
	}
}

// P4.1: predicates that do not stand first, told at the rule's beginning.
func TestPredicatesBehind(t *testing.T) {
	for _, s := range []string{
		"B ((A) =>)", "B ((A) =>) C", "() ((A) =>)", "(A) => ((B) =>)", "(A) => b ((B) =>)", "((A) =>) ((B) =>)", "C | B ((A) =>)", "(B ((A) =>))?", "(B ((A) =>)) => C", "B (((A) =>))", "(A B) ((A) =>)",
		"((A) => B) ((C) =>) D", "b? | (C D ((A) =>))",
	} {
		faulty(t, head+"@a : "+s+";", api.ErrLimit)
		faulty(t, head+"b : ((C) =>) D ;\n@a : "+s+"; ;", api.ErrLimit)
		faulty(t, head+"a : "+s+" @", api.ErrForm)
		faulty(t, head+"a : "+s+" @'b' ;", api.ErrForm)
	}
}

// P4.1: of several faults the first one.
func TestFirstFault(t *testing.T) {
	many := wide(api.MaxAlts + 1)
	for _, k := range []struct {
		s string
		e api.Errno
	}{
		{"@G ; options { bound = 0; }", api.ErrForm},
		{head + "options { bound = @0; bound = 1; }", api.ErrLimit},
		{head + "options { bound = @0 states = 9; }", api.ErrLimit},
		{head + "options { bound = 1; @bound = 0; }", api.ErrForm},
		{head + "options { bound = 1 @0; }", api.ErrForm},
		{head + "options { bound = @9; } A : b ;", api.ErrLimit},
		{head + "options { bound @0; }", api.ErrForm},
		{head + "a : @'b' ; A : b ;", api.ErrForm},
		{head + "A : @b ; a : 'b' ;", api.ErrForm},
		{head + "@a : " + many + " ; grammar : ;", api.ErrLimit},
		{head + "@a : " + many + " ; b : " + many + " ;", api.ErrLimit},
		{head + "b : A ; @A : " + many + " ; b : 'c' ;", api.ErrLimit},
		{head + "a : " + many + " @: ;", api.ErrForm},
		{head + "a : " + many + " | @'b' ;", api.ErrForm},
		{head + "a : (" + many + " @;", api.ErrForm},
		{head + "A : @b ; a : " + many + " ;", api.ErrForm},
		{head + "@skip A : " + many + " ; A : b ;", api.ErrLimit},
		{head + "fragment A : " + many + " | 'b'..@'a' ;", api.ErrForm},
		{head + "fragment A : 'a' @=> b | " + many + " ;", api.ErrForm},
		{head + "A : ~@" + `[\u{0}-\u{10ffff}] b ;`, api.ErrForm},
		{head + "A : 'ab' @.. b ;", api.ErrForm},
		{head + "A : ~@b ;", api.ErrForm},
	} {
		faulty(t, k.s, k.e)
	}
}

// P4.1: a text that ends behind each of its words: where a rule is over it is a grammar, else the fault is at its end, whatever stands behind the word.
func TestEndsTooSoon(t *testing.T) {
	words, fault := scans.Scan(sample)
	if fault.E != api.OK {
		t.Fatal(fault)
	}
	all := fine(t, sample)
	rules := 0
	for i, w := range words {
		s := sample[:w.At.At]
		ended := i == 3 || i == 14 || i > 14 && words[i-1].Kind == scans.WdMark && words[i-1].Text == ";" // behind the name, the options, a rule
		for _, s := range []string{s, s + "\n", s + "//", s + "/* \u00e9\n\u00e9 */ \t", strings.TrimRight(s, " \t\n")} {
			if !ended {
				faulty(t, s+"@", api.ErrForm)
				continue
			}
			g := fine(t, s)
			if i >= 14 && (g.Options != all.Options || !slices.EqualFunc(g.Rules, all.Rules[:len(g.Rules)], func(a, b api.Rule) bool { return grams.Rule(a) == grams.Rule(b) && a.At == b.At })) {
				t.Errorf("Read(%q): %v", s, g)
			}
			rules = len(g.Rules)
		}
	}
	if rules != len(all.Rules)-1 {
		t.Errorf("%d rules", rules)
	}
}

// P4.1, R1: brackets within brackets, as many as a text can have.
func TestManyBrackets(t *testing.T) {
	open := strings.Repeat("(", api.MaxText-len(head+"a:"))
	faulty(t, head+"a:"+open+"@", api.ErrForm)
	faulty(t, head+"A:"+open+"@", api.ErrForm)
	half := (api.MaxText - len(head+"a:A;")) / 2
	s := head + "a:" + strings.Repeat("(", half) + "A" + strings.Repeat(")", half) + ";"
	if g := fine(t, s); !same(g, Grammar(Rule(api.SParser, "a", Tok("A")))) {
		t.Error("A within brackets is not A")
	}
	faulty(t, strings.TrimSuffix(s, ";")+"@", api.ErrForm)
	faulty(t, strings.TrimSuffix(s, ");")+"@;", api.ErrForm)
	faulty(t, head+"a:"+strings.Repeat("(", half-1)+"A"+strings.Repeat(")", half-1)+"@);", api.ErrForm)
	third := api.MaxText / 3 / 2
	faulty(t, head+"@a:"+strings.Repeat("(", third)+"A"+strings.Repeat(")?", third)+";", api.ErrLimit)
	faulty(t, head+"@a:"+strings.Repeat("(", third)+"A"+strings.Repeat(")=>", third)+";", api.ErrLimit)
	faulty(t, head+"@a:"+strings.Repeat("|", 60000)+";", api.ErrLimit)
	faulty(t, head+"@a:"+strings.Repeat("(|", 20000)+strings.Repeat(")", 20000)+";", api.ErrLimit)
	faulty(t, head+"@A:"+strings.Repeat("()", 30000)+";", api.ErrLimit)
}
