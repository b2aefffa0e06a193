package nodes_test

import (
	"math"
	"reflect"
	"slices"
	"strconv"
	"strings"
	"testing"
	"unsafe"

	"harbinger/api"
	. "harbinger/made"
	"harbinger/nodes"
)

// last is the greatest number that is a rune's.
const last = 0x10ffff

// with has more Subs than a node of its kind is made with.
func with(n api.Node, subs ...api.Node) api.Node {
	n.Subs = append(slices.Clone(n.Subs), subs...)
	return n
}

func many(count int, n api.Node) []api.Node {
	return slices.Repeat([]api.Node{n}, count)
}

// example is the chapter's.
func example() api.Node {
	return Alts(Tok("A"), Seq(Star(Alts(Tok("B"), Tok("C"))), Ref("d")))
}

// samples are nodes of each kind, plain ones and others, with whatever a node can have; each call makes them anew.
func samples() []api.Node {
	full := api.Node{Name: "a", Text: "b", Set: []api.Range{{Low: 'c', High: 'd'}}, Subs: []api.Node{Tok("A"), Set('a', 'b')}}
	l := []api.Node{
		example(), {}, full, Seq(), Opt(Tok("A")), Plus(Set('a', 'a', 'c', 'e')), Lit("it's"), Pred(Seq(Tok("A"), Ref("a"))),
		Seq(Pred(Tok("A")), Tok("B"), Alts(Tok("C"), Seq())), Alts(Lit("a"), Lit("b"), Set('a', 'z', '0', '9')), Star(Star(Plus(Lit("\u20ac")))),
		{Set: []api.Range{}}, {Subs: []api.Node{}}, {Kind: api.KLit, Text: "\xff"}, {Kind: api.KSet, Set: []api.Range{{Low: 1, High: 0}}},
	}
	for k := api.KAlts; k <= api.KSet+1; k++ {
		n := full
		n.Kind = k
		l = append(l, Node(k), n, with(n, n, n))
	}
	l = append(l, Node(255, Tok("A")), Chain(70, api.KOpt, full))
	for i, n := range l {
		l[i] = twin(n) // no two of them share memory
	}
	return l
}

// P3.1, P3.2: the chapter's example.
func TestExample(t *testing.T) {
	n := example()
	if s := nodes.Text(n); s != "A | (B | C)* d" {
		t.Error("Text:", s)
	}
	if count, deep := nodes.Count(n), nodes.Deep(n); count != 8 || deep != 5 {
		t.Error("Count, Deep:", count, deep)
	}
	if !nodes.Plain(n, false) || nodes.Plain(n, true) {
		t.Error("Plain:", nodes.Plain(n, false), nodes.Plain(n, true))
	}
	if !nodes.Same(n, example()) || !nodes.Same(n, nodes.Copy(n)) {
		t.Error("not the same")
	}
}

// P3.1
func TestCountAndDeep(t *testing.T) {
	for _, k := range []struct {
		n           api.Node
		count, deep int
	}{
		{api.Node{}, 1, 1},
		{Seq(), 1, 1},
		{Tok("A"), 1, 1},
		{Ref("a"), 1, 1},
		{Lit("abc"), 1, 1},
		{Set('a', 'z', '0', '9'), 1, 1},
		{Node(255), 1, 1},
		{Opt(Tok("A")), 2, 2},
		{Star(Plus(Pred(Tok("A")))), 4, 4},
		{Seq(Tok("A"), Tok("B")), 3, 2},
		{Alts(Tok("A"), Tok("B"), Tok("C")), 4, 2},
		{Alts(Opt(Opt(Tok("A"))), Tok("B")), 5, 4},
		{Alts(Tok("B"), Opt(Opt(Tok("A")))), 5, 4},
		{Alts(Tok("B"), Opt(Opt(Tok("A"))), Opt(Tok("C"))), 7, 4},
		{Alts(many(3, Seq(many(5, Opt(Tok("A")))...))...), 34, 4},
		{with(Tok("A"), Tok("B"), Opt(Seq())), 4, 3},     // what a kind should not have counts all the same
		{with(Node(77, Seq()), Node(99, Seq())), 4, 3},   // likewise of what is no kind
		{api.Node{Subs: make([]api.Node, 0, 5)}, 1, 1},   // what lies in the room behind does not
		{Alts(many(100000, Tok("A"))...), 100001, 2},     // more than may be plain
		{Chain(65535, api.KOpt, Tok("A")), 65536, 65536}, // as deep as anything is promised of
	} {
		if count, deep := nodes.Count(k.n), nodes.Deep(k.n); count != k.count || deep != k.deep {
			t.Errorf("%.200s: %d, %d; want %d, %d", nodes.Text(k.n), count, deep, k.count, k.deep)
		}
	}
}

// P3.1: each of these is another one, if only by one thing.
func TestSame(t *testing.T) {
	a := api.Node{Kind: api.KLit, Name: "a", Text: "b", Set: []api.Range{{Low: 1, High: 2}, {Low: 3, High: 4}}, Subs: []api.Node{Tok("A"), Seq(Tok("B"), Opt(Tok("C")))}}
	all := []api.Node{a, {}}
	for _, change := range []func(n *api.Node){
		func(n *api.Node) { n.Kind = api.KSet },
		func(n *api.Node) { n.Kind = 200 },
		func(n *api.Node) { n.Name = "c" },
		func(n *api.Node) { n.Name = "" },
		func(n *api.Node) { n.Name = "a\x00" },
		func(n *api.Node) { n.Text = "c" },
		func(n *api.Node) { n.Text = "" },
		func(n *api.Node) { n.Name, n.Text = n.Text, n.Name },
		func(n *api.Node) { n.Set = nil },
		func(n *api.Node) { n.Set = n.Set[:1] },
		func(n *api.Node) { n.Set = []api.Range{{Low: 1, High: 4}} },
		func(n *api.Node) { n.Set = append(n.Set[:2:2], api.Range{}) },
		func(n *api.Node) { n.Set[0].Low = 0 },
		func(n *api.Node) { n.Set[1].High = 3 },
		func(n *api.Node) { slices.Reverse(n.Set) },
		func(n *api.Node) { n.Subs = nil },
		func(n *api.Node) { n.Subs = n.Subs[:1] },
		func(n *api.Node) { n.Subs = append(n.Subs[:2:2], api.Node{}) },
		func(n *api.Node) { slices.Reverse(n.Subs) },
		func(n *api.Node) { n.Subs[0].Name = "B" },
		func(n *api.Node) { n.Subs[0].Kind = api.KRef },
		func(n *api.Node) { n.Subs[1].Subs[1].Kind = api.KStar },
		func(n *api.Node) { n.Subs[1].Subs[1].Subs[0].Name = "D" },
		func(n *api.Node) { n.Subs[1].Subs[1].Subs[0].Set = []api.Range{{}} },
		func(n *api.Node) { n.Subs[1].Subs = n.Subs[1].Subs[:1] },
	} {
		b := twin(a)
		change(&b)
		all = append(all, b)
	}
	for i, a := range all {
		for j, b := range all {
			if nodes.Same(a, b) != (i == j) || nodes.Same(a, twin(b)) != (i == j) {
				t.Errorf("Same(%v, %v): %t", a, b, nodes.Same(a, b))
			}
		}
	}
	if !nodes.Same(api.Node{}, api.Node{Set: []api.Range{}, Subs: make([]api.Node, 0, 3)}) || !nodes.Same(api.Node{Set: []api.Range{}, Subs: make([]api.Node, 0, 3)}, api.Node{}) {
		t.Error("a list of none is not as one that is not there")
	}
	if nodes.Same(Seq(Seq(Tok("A")), Tok("B")), Seq(Seq(Tok("A"), Tok("B")))) || nodes.Same(Set('a', 'c'), Set('a', 'b', 'c', 'c')) {
		t.Error("nodes that have as many in all, or the same runes, are not the same for that")
	}
	long, other := Chain(65535, api.KOpt, Tok("A")), Chain(65535, api.KOpt, Tok("B"))
	if !nodes.Same(long, twin(long)) || nodes.Same(long, other) || nodes.Same(long, Chain(65534, api.KOpt, Tok("A"))) {
		t.Error("deep ones")
	}
}

// twin is a copy of a node that the package has not made.
func twin(n api.Node) api.Node {
	n.Set = slices.Clone(n.Set)
	n.Subs = slices.Clone(n.Subs)
	for i := range n.Subs {
		n.Subs[i] = twin(n.Subs[i])
	}
	return n
}

// Which rules a node is plain for.
const (
	none = iota
	parser
	token
	both
)

// held looks whether a node is plain for just these rules.
func held(t *testing.T, n api.Node, want int) {
	t.Helper()
	got := none
	if nodes.Plain(n, false) {
		got += parser
	}
	if nodes.Plain(n, true) {
		got += token
	}
	if got != want {
		t.Errorf("Plain(%.200s): %d; want %d", nodes.Text(n), got, want)
	}
}

// P3.2: how many Subs a kind has.
func TestPlainSubs(t *testing.T) {
	a := Tok("A")
	for k, want := range map[api.Kind][4]int{ // with none, one, two, three
		api.KAlts:    {none, none, both, both},
		api.KSeq:     {both, none, both, both},
		api.KOpt:     {none, both, none, none},
		api.KStar:    {none, both, none, none},
		api.KPlus:    {none, both, none, none},
		api.KPred:    {none, parser, none, none},
		api.KRef:     {none, none, none, none},
		api.KTok:     {none, none, none, none},
		api.KLit:     {none, none, none, none},
		api.KSet:     {none, none, none, none},
		api.KSet + 1: {none, none, none, none},
		100:          {none, none, none, none},
		255:          {none, none, none, none},
	} {
		for count, want := range want {
			n := Node(k, many(count, a)...)
			held(t, n, want)
			held(t, Opt(n), want)
			held(t, Alts(a, n), want)
		}
	}
	for _, n := range []api.Node{with(Ref("a"), a), with(Tok("A"), a), with(Lit("a"), a), with(Set('a', 'a'), a), with(Tok("A"), Seq()), with(Opt(Seq()), Seq())} {
		held(t, n, none)
	}
	for _, n := range []api.Node{Opt(Seq()), Seq(Seq(), Seq()), Seq(Seq(a, a), a), Alts(Alts(a, a), Seq()), Star(Plus(Opt(Star(a))))} {
		held(t, n, both)
	}
}

// P3.2: a token's rule has no KRef and no KPred, a parser's no KLit and no KSet; wherever these are.
func TestPlainSorts(t *testing.T) {
	for _, k := range []struct {
		n    api.Node
		want int
	}{
		{Tok("A"), both},
		{Ref("a"), parser},
		{Lit("a"), token},
		{Set('a', 'a'), token},
		{Pred(Tok("A")), parser},
		{Alts(Ref("a"), Lit("a")), none},
		{Seq(Pred(Tok("A")), Set('a', 'a')), none},
	} {
		held(t, k.n, k.want)
		for _, f := range []func(n api.Node) api.Node{
			func(n api.Node) api.Node { return Opt(n) },
			func(n api.Node) api.Node { return Star(n) },
			func(n api.Node) api.Node { return Plus(n) },
			func(n api.Node) api.Node { return Alts(n, Tok("B")) },
			func(n api.Node) api.Node { return Alts(Tok("B"), n) },
			func(n api.Node) api.Node { return Seq(n, Tok("B")) },
			func(n api.Node) api.Node { return Opt(Alts(Tok("B"), Star(Opt(n)))) },
		} {
			held(t, f(k.n), k.want)
		}
		held(t, Pred(k.n), k.want&parser)
	}
}

// P3.2: where a KPred may be.
func TestPlainPred(t *testing.T) {
	a, p := Tok("A"), Pred(Tok("B"))
	for _, n := range []api.Node{
		p, Pred(p), Opt(p), Star(p), Plus(p), Alts(p, a), Alts(a, p), Alts(p, p), Alts(a, p, a), Seq(p, a), Seq(p, a, a), Seq(p, Seq()), Pred(Seq()),
		Seq(Seq(p, a), a), Seq(a, Seq(p, a)), Seq(p, Opt(p)), Seq(a, Opt(p)), Seq(a, Alts(a, p)), Pred(Seq(p, a)), Pred(Alts(p, p)), Opt(Pred(Star(p))),
	} {
		held(t, n, parser)
		held(t, Opt(n), parser)
		held(t, Pred(n), parser)
	}
	for _, n := range []api.Node{
		Seq(a, p), Seq(p, p), Seq(p, p, a), Seq(a, a, p), Seq(p, a, p), Seq(p), with(p, a), with(p, p), with(Opt(p), p), with(Star(p), a), with(Plus(p), p), Node(api.KPred),
		with(a, p), with(Ref("a"), p), Node(api.KSet+1, p), Node(api.KSet + 1), Pred(Seq(a, p)), Seq(p, Opt(Seq(a, p))), Alts(p, Seq(a, a, p)), Opt(Node(api.KPred)), Pred(Seq(p)),
	} {
		held(t, n, none)
		held(t, Opt(n), none)
	}
}

// P3.2: names.
func TestPlainNames(t *testing.T) {
	for _, s := range []string{"a", "z", "aZ", "a0", "a_", "azAZ09_", "grammar", "skip", "a" + strings.Repeat("x", api.MaxName-1)} {
		held(t, Ref(s), parser)
		held(t, Tok(s), none)
		held(t, Tok(strings.ToUpper(s[:1])+s[1:]), both)
		held(t, Ref(strings.ToUpper(s[:1])+s[1:]), none)
		held(t, Seq(Ref(s), Tok(s)), none)
	}
	for _, s := range []string{
		"", " ", "_", "_a", "_A", "0", "0a", "9A", "-", "'", "@", "[", "`", "{", "\x00", "\n", "\xff", "\u00e9", "\u00c9", "\u0430", "\u0410", "\uff41", "\uff21", "\u0660",
	} {
		held(t, Ref(s), none)
		held(t, Tok(s), none)
	}
	for _, s := range []string{" ", "-", ".", "/", ":", "@", "[", "\\", "^", "`", "{", "\x00", "\n", "\x7f", "\xff", "\u00e9", "\u00c9", "\u0660", "\uff41", "\u212a", "\u017f"} {
		for _, s := range []string{s, s + "b", "b" + s + "b"} {
			held(t, Ref("a"+s), none)
			held(t, Tok("A"+s), none)
			held(t, Ref(s+"a"), none)
			held(t, Tok(s+"A"), none)
		}
	}
	for _, n := range []int{api.MaxName, 2 * api.MaxName, api.MaxText} {
		held(t, Ref("a"+strings.Repeat("x", n)), none)
		held(t, Tok("A"+strings.Repeat("x", n)), none)
	}
}

// P3.2: texts and sets.
func TestPlainTexts(t *testing.T) {
	for _, s := range []string{"a", "ab", " ", "\n", "'", "\\", "\x00", "\x7f", "\u00e9", "\ufffd", "\ue000", "\ud7ff", "\U0010ffff", "A | B", strings.Repeat("x", api.MaxText+1)} {
		held(t, Lit(s), token)
	}
	for _, s := range []string{"", "\xff", "\x80", "a\xff", "\xffa", "a\xffb", "\xc0\x80", "\xed\xa0\x80", "\xf4\x90\x80\x80", "\u20ac\xe2\x82", "\ufffd\xef\xbf"} {
		held(t, Lit(s), none)
	}
	for _, n := range []api.Node{
		Set('a', 'a'), Set('a', 'z'), Set('a', 'z', '0', '9'), Set('z', 'z', 'a', 'b'), Set('a', 'c', 'b', 'd'), Set('a', 'a', 'a', 'a'), Set(0, 0), Set(0, last), Set(last, last), Set(0xd7ff, 0xe000), Set(0, 0xd7ff, 0xe000, last),
		{Kind: api.KSet, Set: slices.Repeat([]api.Range{{Low: 'a', High: 'b'}}, 5000)},
	} {
		held(t, n, token)
	}
	for _, n := range []api.Node{
		Set(), {Kind: api.KSet, Set: []api.Range{}}, {Kind: api.KSet, Set: make([]api.Range, 0, 3)},
		Set('b', 'a'), Set('a', 'b', 'b', 'a'), Set('b', 'a', 'a', 'b'), Set(1, 0), Set(last, 0),
		Set(-1, 0), Set(-1, -1), Set('a', -1), Set(0, last+1), Set(last+1, last+1), Set(0xd800, 0xd800), Set(0xd800, 0xdfff), Set('a', 0xd800), Set('a', 0xdfff), Set(0xdfff, last), Set(0xd800, last),
		Set('a', 'b', -1, 'a'), Set(-1, 'a', 'a', 'b'), Set('a', 'b', 'a', last+1), Set(math.MinInt32, math.MaxInt32), Set(0, math.MaxInt32), Set(math.MinInt32, 0),
	} {
		held(t, n, none)
	}
}

// P3.2: what a kind does not have is nothing.
func TestPlainHasNoMore(t *testing.T) {
	for _, k := range []struct {
		n               api.Node
		name, text, set int // what is left with one
	}{
		{Alts(Tok("A"), Tok("B")), none, none, none},
		{Seq(), none, none, none},
		{Seq(Tok("A"), Tok("B")), none, none, none},
		{Seq(Pred(Tok("A")), Tok("B")), none, none, none},
		{Opt(Tok("A")), none, none, none},
		{Star(Tok("A")), none, none, none},
		{Plus(Tok("A")), none, none, none},
		{Pred(Tok("A")), none, none, none},
		{Ref("a"), parser, none, none},
		{Tok("a"), none, none, none},
		{Lit("a"), none, token, none},
		{Set('a', 'a'), none, none, token},
	} {
		for _, name := range []string{"a", "_"} {
			n := k.n
			n.Name = name
			want := k.name
			if name == "_" {
				want = none
			}
			held(t, n, want)
			held(t, Opt(n), want)
		}
		for _, text := range []string{"a", " ", "\xff"} {
			n := k.n
			n.Text = text
			want := k.text
			if text == "\xff" {
				want = none
			}
			held(t, n, want)
			held(t, Opt(n), want)
		}
		for _, l := range [][]api.Range{{{Low: 'a', High: 'b'}}, {{}}} {
			n := k.n
			n.Set = l
			held(t, n, k.set)
			held(t, Opt(n), k.set)
		}
	}
	big := Tok("A")
	big.Name, big.Text = "A", "A"
	held(t, big, none)
	bare := api.Node{Kind: api.KTok, Name: "A", Set: []api.Range{}, Subs: []api.Node{}} // lists of none are nothing
	held(t, bare, both)
	held(t, Seq(bare, bare), both)
	held(t, api.Node{Kind: api.KSeq, Subs: []api.Node{}}, both)
}

// P3.2: the limits themselves are allowed; one more is not.
func TestPlainLimits(t *testing.T) {
	a := Tok("A")
	held(t, Alts(many(api.MaxAlts, a)...), both)
	held(t, Alts(many(api.MaxAlts+1, a)...), none)
	held(t, Opt(Alts(many(api.MaxAlts+1, a)...)), none)
	held(t, Alts(Alts(many(api.MaxAlts, a)...), Alts(many(api.MaxAlts, a)...)), both)
	held(t, Seq(many(api.MaxAlts+1, a)...), both)
	held(t, Seq(many(api.MaxNodes-1, a)...), both)
	held(t, Seq(many(api.MaxNodes, a)...), none)
	held(t, Seq(many(api.MaxNodes/2-1, Opt(a))...), both) // one less than MaxNodes in all
	held(t, Seq(append(many(api.MaxNodes/2-1, Opt(a)), a)...), both)
	held(t, Seq(append(many(api.MaxNodes/2-1, Opt(a)), Opt(a))...), none)
	held(t, Opt(Seq(many(api.MaxNodes-2, a)...)), both)
	held(t, Opt(Seq(many(api.MaxNodes-1, a)...)), none)
	for _, k := range []api.Kind{api.KOpt, api.KStar, api.KPlus} {
		held(t, Chain(api.MaxDeep-1, k, a), both)
		held(t, Chain(api.MaxDeep, k, a), none)
	}
	held(t, Chain(api.MaxDeep-1, api.KPred, a), parser)
	held(t, Chain(api.MaxDeep, api.KPred, a), none)
	held(t, Alts(a, Chain(api.MaxDeep-2, api.KOpt, a)), both)
	held(t, Alts(a, Chain(api.MaxDeep-1, api.KOpt, a)), none)
	held(t, Alts(Chain(api.MaxDeep-1, api.KOpt, a), a), none)
	held(t, Chain(65535, api.KOpt, a), none)
}

// P3.2
func TestText(t *testing.T) {
	a, b, c := Tok("A"), Ref("b"), Tok("C")
	for _, k := range []struct {
		n    api.Node
		want string
	}{
		{a, "A"},
		{b, "b"},
		{Tok("Azaz_09"), "Azaz_09"},
		{Seq(), "()"},
		{Seq(a, b), "A b"},
		{Seq(a, b, c), "A b C"},
		{Seq(Seq(a, b), c), "(A b) C"},
		{Seq(a, Seq(b, c)), "A (b C)"},
		{Seq(Seq(), Seq()), "() ()"},
		{Seq(Alts(a, b), c), "(A | b) C"},
		{Seq(a, Alts(b, c)), "A (b | C)"},
		{Seq(Opt(a), Star(b), Plus(c)), "A? b* C+"},
		{Seq(Opt(Seq(a, b)), Star(Alts(b, c)), Plus(Opt(c))), "(A b)? (b | C)* (C?)+"},
		{Alts(a, b), "A | b"},
		{Alts(a, b, c), "A | b | C"},
		{Alts(Alts(a, b), c), "(A | b) | C"},
		{Alts(a, Alts(b, c)), "A | (b | C)"},
		{Alts(Seq(a, b), Seq(b, c)), "A b | b C"},
		{Alts(Seq(), a, Seq()), "() | A | ()"},
		{Alts(Opt(a), Star(b), Plus(c)), "A? | b* | C+"},
		{Opt(a), "A?"},
		{Star(b), "b*"},
		{Plus(c), "C+"},
		{Opt(Seq()), "()?"},
		{Star(Seq()), "()*"},
		{Plus(Seq()), "()+"},
		{Opt(Seq(a, b)), "(A b)?"},
		{Star(Alts(a, b)), "(A | b)*"},
		{Opt(Opt(a)), "(A?)?"},
		{Star(Opt(a)), "(A?)*"},
		{Plus(Star(Plus(a))), "((A+)*)+"},
		{Plus(Lit("ab")), "'ab'+"},
		{Star(Set('a', 'z')), "[a-z]*"},
		{Opt(Pred(a)), "((A) =>)?"},
		{Star(Pred(a)), "((A) =>)*"},
		{Plus(Pred(Alts(a, b))), "((A | b) =>)+"},
		{Pred(a), "(A) =>"},
		{Pred(Seq()), "(()) =>"},
		{Pred(Seq(a, b)), "(A b) =>"},
		{Pred(Alts(a, b)), "(A | b) =>"},
		{Pred(Pred(a)), "((A) =>) =>"},
		{Pred(Opt(a)), "(A?) =>"},
		{Seq(Pred(a), b), "(A) => b"},
		{Seq(Pred(Seq(a, b)), b, c), "(A b) => b C"},
		{Seq(Pred(a), Alts(b, c)), "(A) => (b | C)"},
		{Seq(Pred(a), Seq(b, c)), "(A) => (b C)"},
		{Seq(Pred(a), Seq()), "(A) => ()"},
		{Seq(a, Seq(Pred(b), c)), "A ((b) => C)"},
		{Alts(Pred(a), b), "(A) => | b"},
		{Alts(Seq(Pred(a), b), Pred(c)), "(A) => b | (C) =>"},
		{Lit("a"), "'a'"},
		{Lit("it's [x-y]"), `'it\'s \[x\-y\]'`},
		{Lit("\n\r\t\\"), `'\n\r\t\\'`},
		{Lit("\x00\u00e9\u20ac\U0010ffff~"), `'\u{0}\u{e9}\u{20ac}\u{10ffff}~'`},
		{Lit("\ufffd"), `'\u{fffd}'`},
		{Set('a', 'a'), "[a]"},
		{Set('a', 'b'), "[a-b]"},
		{Set('a', 'z', '_', '_', '0', '9'), "[a-z_0-9]"},
		{Set('b', 'b', 'a', 'a'), "[ba]"},
		{Set('-', '-', ']', ']', '[', '[', '\\', '\\', '\'', '\''), `[\-\]\[\\\']`},
		{Set('\n', '\r', 0, 0x1f, 127, last), `[\n-\r\u{0}-\u{1f}\u{7f}-\u{10ffff}]`},
		{Set('+', '-', '-', '/'), `[+-\-\--/]`},
		{Seq(Set('a', 'a'), Lit("b")), "[a] 'b'"},
		{Alts(Seq(), Seq(many(3, Alts(a, Opt(Seq(b, c))))...)), "() | (A | (b C)?) (A | (b C)?) (A | (b C)?)"},
		{Chain(4, api.KOpt, a), "(((A?)?)?)?"},
	} {
		if s := nodes.Text(k.n); s != k.want {
			t.Errorf("Text: %s; want %s", s, k.want)
		}
	}
	deep := strings.Repeat("(", 65534) + "A*" + strings.Repeat(")*", 65534)
	if nodes.Text(Chain(65535, api.KStar, a)) != deep {
		t.Error("Text of a deep one")
	}
}

// P3.2: of what is not plain the text has what there is.
func TestTextOfOthers(t *testing.T) {
	a, b := Tok("A"), Tok("B")
	for _, k := range []struct {
		n    api.Node
		want string
	}{
		{api.Node{}, ""},
		{Alts(a), "A"},
		{Alts(Alts(a, b)), "(A | B)"},
		{Seq(a), "A"},
		{Seq(Seq(a)), "(A)"},
		{Seq(a, Pred(b)), "A (B) =>"},
		{Opt(Seq(a)), "(A)?"},
		{Node(api.KOpt), "?"},
		{Node(api.KStar), "*"},
		{Node(api.KPlus), "+"},
		{Node(api.KPred), "() =>"},
		{with(Opt(a), b), "A?"}, // its Sub is the first one
		{with(Pred(a), b), "(A) =>"},
		{Tok(""), ""},
		{Ref("\xff "), "\xff "}, // the name itself, whatever it is
		{with(Ref("a"), b), "a"},
		{Lit(""), "''"},
		{Lit("a\xffb\xe2\x82"), "'ab'"}, // bytes that belong to no rune have no text
		{Set(), "[]"},
		{Set('b', 'a'), "[b-a]"},
		{Set(-1, 'a', 'b', last+1, 0xd800, 0xd800), "[-ab-]"},
		{Node(api.KSet+1, a), ""},
		{Node(255, a), ""},
		{Opt(Node(77)), "()?"},
		{api.Node{Kind: api.KSeq, Name: "a", Text: "b", Set: []api.Range{{}}}, "()"},
		{api.Node{Kind: api.KTok, Name: "A", Text: "b", Set: []api.Range{{}}}, "A"},
		{api.Node{Kind: api.KLit, Name: "a", Text: "b", Set: []api.Range{{}}}, "'b'"},
		{api.Node{Kind: api.KSet, Name: "a", Text: "b", Set: []api.Range{{Low: 'c', High: 'c'}}}, "[c]"},
	} {
		if s := nodes.Text(k.n); s != k.want {
			t.Errorf("Text: %s; want %s", s, k.want)
		}
	}
}

// plainly tells by the chapter's words whether a node is plain but for its limits; seated: a KPred may be here.
func plainly(n api.Node, token, seated bool) bool {
	for i, s := range n.Subs {
		may := n.Kind <= api.KPlus || n.Kind == api.KPred
		if n.Kind == api.KSeq && i > 0 {
			may = false
		}
		if !plainly(s, token, may) {
			return false
		}
	}
	c := len(n.Subs)
	bare := n.Name == "" && n.Text == "" && len(n.Set) == 0
	switch {
	case n.Kind == api.KAlts:
		return bare && 2 <= c && c <= 32
	case n.Kind == api.KSeq:
		return bare && c != 1
	case n.Kind <= api.KPlus:
		return bare && c == 1
	case n.Kind == api.KPred:
		return bare && c == 1 && seated && !token
	case n.Kind == api.KRef:
		return n.Name == "a" && !token && c == 0
	case n.Kind == api.KTok:
		return n.Name == "A" && c == 0
	}
	return (n.Kind == api.KLit || n.Kind == api.KSet) && token && c == 0
}

// spelt tells by the chapter's words what a plain node's text is.
func spelt(n api.Node) string {
	var subs []string
	for _, s := range n.Subs {
		text := spelt(s)
		short := strings.Contains(" 5 6 8 9 ", " "+strconv.Itoa(int(s.Kind))+" ") || s.Kind == api.KSeq && len(s.Subs) == 0
		switch {
		case n.Kind == api.KAlts && s.Kind == api.KAlts,
			n.Kind == api.KSeq && (s.Kind == api.KAlts || s.Kind == api.KSeq && !short),
			n.Kind >= api.KOpt && n.Kind <= api.KPlus && !short,
			n.Kind == api.KPred:
			text = "(" + text + ")"
		}
		subs = append(subs, text)
	}
	switch {
	case n.Kind == api.KAlts:
		return strings.Join(subs, " | ")
	case n.Kind == api.KSeq && len(subs) == 0:
		return "()"
	case n.Kind == api.KSeq:
		return strings.Join(subs, " ")
	case n.Kind <= api.KPlus:
		return subs[0] + "?*+"[n.Kind-api.KOpt:n.Kind-api.KOpt+1]
	case n.Kind == api.KPred:
		return subs[0] + " =>"
	case n.Kind == api.KLit:
		return "'" + n.Text + "'"
	case n.Kind == api.KSet:
		return "[" + string(n.Set[0].Low) + "]"
	}
	return n.Name
}

// P3.1 to P3.4: all small nodes, held against what the words tell of them.
func TestSmallNodes(t *testing.T) {
	leaves := []api.Node{Ref("a"), Tok("A"), Seq(), Lit("a"), Set('a', 'a'), Node(api.KPred), Ref("A"), Node(api.KSet + 1)}
	texts := map[string]api.Node{}
	for count, l := range Grown(4, Kinds(api.KAlts, api.KPred), leaves) {
		for _, n := range l {
			plain := false
			for _, token := range []bool{false, true} {
				if nodes.Plain(n, token) != plainly(n, token, true) {
					t.Fatalf("Plain(%v, %t): %t", n, token, !plainly(n, token, true))
				}
				plain = plain || nodes.Plain(n, token)
			}
			if nodes.Count(n) != count || !nodes.Same(nodes.Copy(n), n) {
				t.Fatalf("%v: not %d, or not the same", n, count)
			}
			if !plain {
				continue
			}
			s := nodes.Text(n)
			if s != spelt(n) {
				t.Fatalf("Text: %s; want %s", s, spelt(n))
			}
			if other, twice := texts[s]; twice {
				t.Fatalf("%s: of %v and of %v", s, n, other)
			}
			texts[s] = n
		}
	}
	if len(texts) < 900 {
		t.Error("no more than", len(texts), "plain ones")
	}
}

// P3.4: of each sort, nodes that are greater, or have leaves that go wrong most easily.
func TestNoTwoHaveOneText(t *testing.T) {
	hard := []api.Node{Seq(), Tok("A")}
	for _, s := range []string{"a", "a' 'a", "a'", "'", "''", "\\", "\\'", "\\\\", "n", "\n", "\\n", "u{41}", "\\u{41}", "\u00e9", "e9", "()", "A", " ", "  ", "a b", "[a]", "]", "[", "-", "a-c", "abc", "| 'a", "\ufffd"} {
		hard = append(hard, Lit(s))
	}
	for _, l := range [][]rune{{'a', 'c'}, {'a', 'b', 'c', 'c'}, {'a', 'a', '-', '-', 'c', 'c'}, {'a', 'a', 'b', 'c'}, {'a', 'a', 'b', 'b', 'c', 'c'}, {'a', 'a', 'c', 'c'}, {'-', '-'}, {'\\', '\\', '-', '-'}, {'\\', '-'}, {'-', '-', 'a', 'a'}, {'-', 'a'}, {'a', 'a', '-', '-'}, {'a', 'a'}, {'a', 'a', 'a', 'a'}, {']', ']'}, {'\\', '\\', ']', ']'}, {'\'', '\''}, {'\n', '\n'}, {'\\', '\\', 'n', 'n'}, {'n', 'n'}, {0, last}, {0, 0xd7ff, 0xe000, last}, {'A', 'A'}} {
		hard = append(hard, Set(l...))
	}
	for _, k := range []struct {
		most   int
		token  bool
		leaves []api.Node
	}{
		{6, false, []api.Node{Tok("A"), Seq()}},
		{5, false, []api.Node{Ref("a"), Tok("A"), Tok("Aa"), Seq()}},
		{6, true, []api.Node{Lit("a"), Seq()}},
		{3, true, hard},
	} {
		texts := map[string]int{}
		plain := 0
		for _, l := range Grown(k.most, Kinds(api.KAlts, api.KPred), k.leaves) {
			for _, n := range l {
				if nodes.Plain(n, k.token) {
					plain++
					texts[nodes.Text(n)]++
				}
			}
		}
		if len(texts) != plain || plain < 1000 {
			t.Errorf("%d plain nodes, %d texts", plain, len(texts))
		}
	}
}

// P3.3
func TestCopy(t *testing.T) {
	for _, n := range append(samples(), Chain(65535, api.KPlus, Lit("a"))) {
		c := nodes.Copy(n)
		if !nodes.Same(c, n) || !equal(c, n) {
			t.Errorf("Copy(%.200s): %.200s", nodes.Text(n), nodes.Text(c))
		}
	}
	one := Opt(Tok("A")) // that nodes share Subs makes no difference to what they are
	c := nodes.Copy(Seq(one, one, Alts(one, one)))
	c.Subs[0].Subs[0].Name = "B"
	c.Subs[2].Subs[0].Subs[0].Name = "C"
	if s := nodes.Text(c); s != "B? A? (C? | A?)" {
		t.Error("parts of a copy share memory:", s)
	}
}

// equal holds nodes against each other by themselves, lists of none as other than those that are not there.
func equal(a, b api.Node) bool {
	if a.Kind != b.Kind || a.Name != b.Name || a.Text != b.Text || !reflect.DeepEqual(a.Set, b.Set) || (a.Subs == nil) != (b.Subs == nil) || len(a.Subs) != len(b.Subs) {
		return false
	}
	for i := range a.Subs {
		if !equal(a.Subs[i], b.Subs[i]) {
			return false
		}
	}
	return true
}

// spoil makes something else of all that a node's lists have.
func spoil(n api.Node) {
	for i := range n.Set {
		n.Set[i] = api.Range{Low: -7, High: -8}
	}
	for i, s := range n.Subs {
		spoil(s)
		n.Subs[i] = api.Node{Kind: 99, Name: "spoilt"}
	}
}

// P3.3, R4: to change the copy changes nothing of the node, nor the other way round; nothing is in the room behind.
func TestCopyIsApart(t *testing.T) {
	for i, n := range samples() {
		c := nodes.Copy(n)
		roomless(t, c)
		spoil(c)
		if !equal(n, samples()[i]) {
			t.Errorf("%d: the node has changed with its copy", i)
		}
		c = nodes.Copy(n)
		spoil(n)
		if !equal(c, samples()[i]) {
			t.Errorf("%d: the copy has changed with its node", i)
		}
	}
	wide := Node(api.KSeq, append(make([]api.Node, 0, 10), Tok("A"), Tok("B"))...)
	wide.Subs[0].Set = append(make([]api.Range, 0, 10), api.Range{Low: 1, High: 2})
	wide.Subs[1].Set, wide.Subs[1].Subs = make([]api.Range, 0, 10), make([]api.Node, 0, 10)
	c := nodes.Copy(wide)
	roomless(t, c)
	if !equal(c, wide) {
		t.Error("the copy of one with room behind")
	}
	_ = append(wide.Subs[1].Subs, Tok("C"))
	_ = append(wide.Subs[1].Set, api.Range{Low: 3, High: 4})
	roomless(t, c)
}

func roomless(t *testing.T, n api.Node) {
	t.Helper()
	if cap(n.Set) != len(n.Set) || cap(n.Subs) != len(n.Subs) {
		t.Errorf("%d ranges, room for %d; %d Subs, room for %d", len(n.Set), cap(n.Set), len(n.Subs), cap(n.Subs))
	}
	for _, s := range n.Subs {
		roomless(t, s)
	}
}

// R1, R4: copies and texts stay what they are when the memory of a node's names and texts becomes something else.
func TestNamesAreNotKept(t *testing.T) {
	memory := []byte("abcdef")
	name := unsafe.String(&memory[0], len(memory))
	one := api.Node{Kind: api.KRef, Name: name, Text: name}
	for _, n := range []api.Node{one, Opt(one), Seq(Tok("A"), one), Alts(one, one)} {
		copy(memory, "abcdef")
		c, s := nodes.Copy(n), nodes.Text(n)
		again := strings.Clone(s)
		clear(memory)
		if s != again {
			t.Error("the text shares memory with the node")
		}
		copy(memory, "zzzzzz")
		copied := c
		for len(copied.Subs) > 0 {
			copied = copied.Subs[len(copied.Subs)-1]
		}
		if copied.Name != "abcdef" || copied.Text != "abcdef" {
			t.Error("the copy shares memory with the node:", copied.Name, copied.Text)
		}
	}
}

// R1, R5: whatever is handed in stays as it is, and is answered with the same again.
func TestWhateverIsHandedIn(t *testing.T) {
	all := samples()
	for i, n := range all {
		for _, token := range []bool{false, true} {
			if nodes.Plain(n, token) != nodes.Plain(n, token) {
				t.Errorf("%d: Plain: not the same again", i)
			}
		}
		if nodes.Count(n) != nodes.Count(n) || nodes.Deep(n) != nodes.Deep(n) || nodes.Text(n) != nodes.Text(n) || !equal(nodes.Copy(n), nodes.Copy(n)) {
			t.Errorf("%d: not the same again", i)
		}
		for j, m := range all {
			if nodes.Same(n, m) != nodes.Same(m, n) || nodes.Same(n, m) != reflect.DeepEqual(whole(n), whole(m)) {
				t.Errorf("Same of %d and %d: %t", i, j, nodes.Same(n, m))
			}
		}
	}
	for i, n := range samples() {
		if !equal(all[i], n) {
			t.Errorf("%d has changed", i)
		}
	}
}

// whole is a node without lists of none.
func whole(n api.Node) api.Node {
	n = twin(n)
	if len(n.Set) == 0 {
		n.Set = nil
	}
	if len(n.Subs) == 0 {
		n.Subs = nil
	}
	for i, s := range n.Subs {
		n.Subs[i] = whole(s)
	}
	return n
}

// R1: of a node that is within itself each call ends, with nothing.
func TestRings(t *testing.T) {
	for i, n := range Rings(Tok("A")) {
		if nodes.Plain(n, false) || nodes.Plain(n, true) {
			t.Errorf("%d: plain", i)
		}
		if nodes.Count(n) != 0 || nodes.Deep(n) != 0 || nodes.Text(n) != "" || !nodes.Same(nodes.Copy(n), api.Node{}) {
			t.Errorf("%d: more than nothing", i)
		}
		if nodes.Same(n, n) || nodes.Same(n, Tok("A")) || nodes.Same(Tok("A"), n) || nodes.Same(n, Chain(9, n.Kind, Tok("A"))) || nodes.Same(Chain(9, n.Kind, Tok("A")), n) {
			t.Errorf("%d: the same", i)
		}
	}
	shared := Tok("A") // few nodes in memory, but more than can be gone through one by one
	for range 63 {
		shared = Alts(shared, shared)
	}
	if nodes.Plain(shared, false) || nodes.Plain(shared, true) {
		t.Error("2 to the 64th nodes are plain")
	}
}
