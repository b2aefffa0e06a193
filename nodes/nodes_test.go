package nodes_test

import (
	"math"
	"reflect"
	"slices"
	"strconv"
	"strings"
	"testing"
	"unsafe"

	"harbinger/api"
	"harbinger/nodes"
)

// last is the greatest number that is a rune's.
const last = 0x10ffff

// node has no list where it has no Subs.
func node(k api.Kind, subs ...api.Node) api.Node {
	return api.Node{Kind: k, Subs: subs}
}

func alts(subs ...api.Node) api.Node { return node(api.KAlts, subs...) }
func seq(subs ...api.Node) api.Node  { return node(api.KSeq, subs...) }
func opt(n api.Node) api.Node        { return node(api.KOpt, n) }
func star(n api.Node) api.Node       { return node(api.KStar, n) }
func plus(n api.Node) api.Node       { return node(api.KPlus, n) }
func pred(n api.Node) api.Node       { return node(api.KPred, n) }
func ref(name string) api.Node       { return api.Node{Kind: api.KRef, Name: name} }
func tok(name string) api.Node       { return api.Node{Kind: api.KTok, Name: name} }
func lit(text string) api.Node       { return api.Node{Kind: api.KLit, Text: text} }

// set is of pairs: where a range begins, and where it ends.
func set(ends ...rune) api.Node {
	n := api.Node{Kind: api.KSet}
	for ; len(ends) > 0; ends = ends[2:] {
		n.Set = append(n.Set, api.Range{Low: ends[0], High: ends[1]})
	}
	return n
}

// with has more Subs than a node of its kind is made with.
func with(n api.Node, subs ...api.Node) api.Node {
	n.Subs = append(slices.Clone(n.Subs), subs...)
	return n
}

func many(count int, n api.Node) []api.Node {
	return slices.Repeat([]api.Node{n}, count)
}

// chain is so many nodes, each within the one ahead of it, and a leaf.
func chain(above int, k api.Kind, leaf api.Node) api.Node {
	for range above {
		leaf = node(k, leaf)
	}
	return leaf
}

// rings are nodes that are within themselves.
func rings() []api.Node {
	var all []api.Node
	for k := api.KAlts; k <= api.KSet+1; k++ {
		one := node(k, tok("A"))
		one.Subs[0] = one
		two := node(k, node(api.KSeq, tok("A"), tok("B")), tok("C"), tok("D"))
		two.Subs[0].Subs[1], two.Subs[1], two.Subs[2] = two, two, two
		all = append(all, one, two, with(star(tok("A")), one))
	}
	return all
}

// example is the chapter's.
func example() api.Node {
	return alts(tok("A"), seq(star(alts(tok("B"), tok("C"))), ref("d")))
}

// samples are nodes of each kind, plain ones and others, with whatever a node can have; each call makes them anew.
func samples() []api.Node {
	full := api.Node{Name: "a", Text: "b", Set: []api.Range{{Low: 'c', High: 'd'}}, Subs: []api.Node{tok("A"), set('a', 'b')}}
	l := []api.Node{
		example(), {}, full, seq(), opt(tok("A")), plus(set('a', 'a', 'c', 'e')), lit("it's"), pred(seq(tok("A"), ref("a"))),
		seq(pred(tok("A")), tok("B"), alts(tok("C"), seq())), alts(lit("a"), lit("b"), set('a', 'z', '0', '9')), star(star(plus(lit("\u20ac")))),
		{Set: []api.Range{}}, {Subs: []api.Node{}}, {Kind: api.KLit, Text: "\xff"}, {Kind: api.KSet, Set: []api.Range{{Low: 1, High: 0}}},
	}
	for k := api.KAlts; k <= api.KSet+1; k++ {
		n := full
		n.Kind = k
		l = append(l, node(k), n, with(n, n, n))
	}
	l = append(l, node(255, tok("A")), chain(70, api.KOpt, full))
	for i, n := range l {
		l[i] = twin(n) // no two of them share memory
	}
	return l
}

// P3.1, P3.2: the chapter's example.
func TestExample(t *testing.T) {
	n := example()
	if s := nodes.Text(n); s != "A | (B | C)* d" {
		t.Error("Text:", s)
	}
	if count, deep := nodes.Count(n), nodes.Deep(n); count != 8 || deep != 5 {
		t.Error("Count, Deep:", count, deep)
	}
	if !nodes.Plain(n, false) || nodes.Plain(n, true) {
		t.Error("Plain:", nodes.Plain(n, false), nodes.Plain(n, true))
	}
	if !nodes.Same(n, example()) || !nodes.Same(n, nodes.Copy(n)) {
		t.Error("not the same")
	}
}

// P3.1
func TestCountAndDeep(t *testing.T) {
	for _, k := range []struct {
		n           api.Node
		count, deep int
	}{
		{api.Node{}, 1, 1},
		{seq(), 1, 1},
		{tok("A"), 1, 1},
		{ref("a"), 1, 1},
		{lit("abc"), 1, 1},
		{set('a', 'z', '0', '9'), 1, 1},
		{node(255), 1, 1},
		{opt(tok("A")), 2, 2},
		{star(plus(pred(tok("A")))), 4, 4},
		{seq(tok("A"), tok("B")), 3, 2},
		{alts(tok("A"), tok("B"), tok("C")), 4, 2},
		{alts(opt(opt(tok("A"))), tok("B")), 5, 4},
		{alts(tok("B"), opt(opt(tok("A")))), 5, 4},
		{alts(tok("B"), opt(opt(tok("A"))), opt(tok("C"))), 7, 4},
		{alts(many(3, seq(many(5, opt(tok("A")))...))...), 34, 4},
		{with(tok("A"), tok("B"), opt(seq())), 4, 3},     // what a kind should not have counts all the same
		{with(node(77, seq()), node(99, seq())), 4, 3},   // likewise of what is no kind
		{api.Node{Subs: make([]api.Node, 0, 5)}, 1, 1},   // what lies in the room behind does not
		{alts(many(100000, tok("A"))...), 100001, 2},     // more than may be plain
		{chain(65535, api.KOpt, tok("A")), 65536, 65536}, // as deep as anything is promised of
	} {
		if count, deep := nodes.Count(k.n), nodes.Deep(k.n); count != k.count || deep != k.deep {
			t.Errorf("%.200s: %d, %d; want %d, %d", nodes.Text(k.n), count, deep, k.count, k.deep)
		}
	}
}

// P3.1: each of these is another one, if only by one thing.
func TestSame(t *testing.T) {
	a := api.Node{Kind: api.KLit, Name: "a", Text: "b", Set: []api.Range{{Low: 1, High: 2}, {Low: 3, High: 4}}, Subs: []api.Node{tok("A"), seq(tok("B"), opt(tok("C")))}}
	all := []api.Node{a, {}}
	for _, change := range []func(n *api.Node){
		func(n *api.Node) { n.Kind = api.KSet },
		func(n *api.Node) { n.Kind = 200 },
		func(n *api.Node) { n.Name = "c" },
		func(n *api.Node) { n.Name = "" },
		func(n *api.Node) { n.Name = "a\x00" },
		func(n *api.Node) { n.Text = "c" },
		func(n *api.Node) { n.Text = "" },
		func(n *api.Node) { n.Name, n.Text = n.Text, n.Name },
		func(n *api.Node) { n.Set = nil },
		func(n *api.Node) { n.Set = n.Set[:1] },
		func(n *api.Node) { n.Set = []api.Range{{Low: 1, High: 4}} },
		func(n *api.Node) { n.Set = append(n.Set[:2:2], api.Range{}) },
		func(n *api.Node) { n.Set[0].Low = 0 },
		func(n *api.Node) { n.Set[1].High = 3 },
		func(n *api.Node) { slices.Reverse(n.Set) },
		func(n *api.Node) { n.Subs = nil },
		func(n *api.Node) { n.Subs = n.Subs[:1] },
		func(n *api.Node) { n.Subs = append(n.Subs[:2:2], api.Node{}) },
		func(n *api.Node) { slices.Reverse(n.Subs) },
		func(n *api.Node) { n.Subs[0].Name = "B" },
		func(n *api.Node) { n.Subs[0].Kind = api.KRef },
		func(n *api.Node) { n.Subs[1].Subs[1].Kind = api.KStar },
		func(n *api.Node) { n.Subs[1].Subs[1].Subs[0].Name = "D" },
		func(n *api.Node) { n.Subs[1].Subs[1].Subs[0].Set = []api.Range{{}} },
		func(n *api.Node) { n.Subs[1].Subs = n.Subs[1].Subs[:1] },
	} {
		b := twin(a)
		change(&b)
		all = append(all, b)
	}
	for i, a := range all {
		for j, b := range all {
			if nodes.Same(a, b) != (i == j) || nodes.Same(a, twin(b)) != (i == j) {
				t.Errorf("Same(%v, %v): %t", a, b, nodes.Same(a, b))
			}
		}
	}
	if !nodes.Same(api.Node{}, api.Node{Set: []api.Range{}, Subs: make([]api.Node, 0, 3)}) || !nodes.Same(api.Node{Set: []api.Range{}, Subs: make([]api.Node, 0, 3)}, api.Node{}) {
		t.Error("a list of none is not as one that is not there")
	}
	if nodes.Same(seq(seq(tok("A")), tok("B")), seq(seq(tok("A"), tok("B")))) || nodes.Same(set('a', 'c'), set('a', 'b', 'c', 'c')) {
		t.Error("nodes that have as many in all, or the same runes, are not the same for that")
	}
	long, other := chain(65535, api.KOpt, tok("A")), chain(65535, api.KOpt, tok("B"))
	if !nodes.Same(long, twin(long)) || nodes.Same(long, other) || nodes.Same(long, chain(65534, api.KOpt, tok("A"))) {
		t.Error("deep ones")
	}
}

// twin is a copy of a node that the package has not made.
func twin(n api.Node) api.Node {
	n.Set = slices.Clone(n.Set)
	n.Subs = slices.Clone(n.Subs)
	for i := range n.Subs {
		n.Subs[i] = twin(n.Subs[i])
	}
	return n
}

// Which rules a node is plain for.
const (
	none = iota
	parser
	token
	both
)

// held looks whether a node is plain for just these rules.
func held(t *testing.T, n api.Node, want int) {
	t.Helper()
	got := none
	if nodes.Plain(n, false) {
		got += parser
	}
	if nodes.Plain(n, true) {
		got += token
	}
	if got != want {
		t.Errorf("Plain(%.200s): %d; want %d", nodes.Text(n), got, want)
	}
}

// P3.2: how many Subs a kind has.
func TestPlainSubs(t *testing.T) {
	a := tok("A")
	for k, want := range map[api.Kind][4]int{ // with none, one, two, three
		api.KAlts:    {none, none, both, both},
		api.KSeq:     {both, none, both, both},
		api.KOpt:     {none, both, none, none},
		api.KStar:    {none, both, none, none},
		api.KPlus:    {none, both, none, none},
		api.KPred:    {none, parser, none, none},
		api.KRef:     {none, none, none, none},
		api.KTok:     {none, none, none, none},
		api.KLit:     {none, none, none, none},
		api.KSet:     {none, none, none, none},
		api.KSet + 1: {none, none, none, none},
		100:          {none, none, none, none},
		255:          {none, none, none, none},
	} {
		for count, want := range want {
			n := node(k, many(count, a)...)
			held(t, n, want)
			held(t, opt(n), want)
			held(t, alts(a, n), want)
		}
	}
	for _, n := range []api.Node{with(ref("a"), a), with(tok("A"), a), with(lit("a"), a), with(set('a', 'a'), a), with(tok("A"), seq()), with(opt(seq()), seq())} {
		held(t, n, none)
	}
	for _, n := range []api.Node{opt(seq()), seq(seq(), seq()), seq(seq(a, a), a), alts(alts(a, a), seq()), star(plus(opt(star(a))))} {
		held(t, n, both)
	}
}

// P3.2: a token's rule has no KRef and no KPred, a parser's no KLit and no KSet; wherever these are.
func TestPlainSorts(t *testing.T) {
	for _, k := range []struct {
		n    api.Node
		want int
	}{
		{tok("A"), both},
		{ref("a"), parser},
		{lit("a"), token},
		{set('a', 'a'), token},
		{pred(tok("A")), parser},
		{alts(ref("a"), lit("a")), none},
		{seq(pred(tok("A")), set('a', 'a')), none},
	} {
		held(t, k.n, k.want)
		for _, f := range []func(n api.Node) api.Node{
			opt, star, plus,
			func(n api.Node) api.Node { return alts(n, tok("B")) },
			func(n api.Node) api.Node { return alts(tok("B"), n) },
			func(n api.Node) api.Node { return seq(n, tok("B")) },
			func(n api.Node) api.Node { return opt(alts(tok("B"), star(opt(n)))) },
		} {
			held(t, f(k.n), k.want)
		}
		held(t, pred(k.n), k.want&parser)
	}
}

// P3.2: where a KPred may be.
func TestPlainPred(t *testing.T) {
	a, p := tok("A"), pred(tok("B"))
	for _, n := range []api.Node{
		p, pred(p), opt(p), star(p), plus(p), alts(p, a), alts(a, p), alts(p, p), alts(a, p, a), seq(p, a), seq(p, a, a), seq(p, seq()), pred(seq()),
		seq(seq(p, a), a), seq(a, seq(p, a)), seq(p, opt(p)), seq(a, opt(p)), seq(a, alts(a, p)), pred(seq(p, a)), pred(alts(p, p)), opt(pred(star(p))),
	} {
		held(t, n, parser)
		held(t, opt(n), parser)
		held(t, pred(n), parser)
	}
	for _, n := range []api.Node{
		seq(a, p), seq(p, p), seq(p, p, a), seq(a, a, p), seq(p, a, p), seq(p), with(p, a), with(p, p), with(opt(p), p), with(star(p), a), with(plus(p), p), node(api.KPred),
		with(a, p), with(ref("a"), p), node(api.KSet+1, p), node(api.KSet + 1), pred(seq(a, p)), seq(p, opt(seq(a, p))), alts(p, seq(a, a, p)), opt(node(api.KPred)), pred(seq(p)),
	} {
		held(t, n, none)
		held(t, opt(n), none)
	}
}

// P3.2: names.
func TestPlainNames(t *testing.T) {
	for _, s := range []string{"a", "z", "aZ", "a0", "a_", "azAZ09_", "grammar", "skip", "a" + strings.Repeat("x", api.MaxName-1)} {
		held(t, ref(s), parser)
		held(t, tok(s), none)
		held(t, tok(strings.ToUpper(s[:1])+s[1:]), both)
		held(t, ref(strings.ToUpper(s[:1])+s[1:]), none)
		held(t, seq(ref(s), tok(s)), none)
	}
	for _, s := range []string{
		"", " ", "_", "_a", "_A", "0", "0a", "9A", "-", "'", "@", "[", "`", "{", "\x00", "\n", "\xff", "\u00e9", "\u00c9", "\u0430", "\u0410", "\uff41", "\uff21", "\u0660",
	} {
		held(t, ref(s), none)
		held(t, tok(s), none)
	}
	for _, s := range []string{" ", "-", ".", "/", ":", "@", "[", "\\", "^", "`", "{", "\x00", "\n", "\x7f", "\xff", "\u00e9", "\u00c9", "\u0660", "\uff41", "\u212a", "\u017f"} {
		for _, s := range []string{s, s + "b", "b" + s + "b"} {
			held(t, ref("a"+s), none)
			held(t, tok("A"+s), none)
			held(t, ref(s+"a"), none)
			held(t, tok(s+"A"), none)
		}
	}
	for _, n := range []int{api.MaxName, 2 * api.MaxName, api.MaxText} {
		held(t, ref("a"+strings.Repeat("x", n)), none)
		held(t, tok("A"+strings.Repeat("x", n)), none)
	}
}

// P3.2: texts and sets.
func TestPlainTexts(t *testing.T) {
	for _, s := range []string{"a", "ab", " ", "\n", "'", "\\", "\x00", "\x7f", "\u00e9", "\ufffd", "\ue000", "\ud7ff", "\U0010ffff", "A | B", strings.Repeat("x", api.MaxText+1)} {
		held(t, lit(s), token)
	}
	for _, s := range []string{"", "\xff", "\x80", "a\xff", "\xffa", "a\xffb", "\xc0\x80", "\xed\xa0\x80", "\xf4\x90\x80\x80", "\u20ac\xe2\x82", "\ufffd\xef\xbf"} {
		held(t, lit(s), none)
	}
	for _, n := range []api.Node{
		set('a', 'a'), set('a', 'z'), set('a', 'z', '0', '9'), set('z', 'z', 'a', 'b'), set('a', 'c', 'b', 'd'), set('a', 'a', 'a', 'a'), set(0, 0), set(0, last), set(last, last), set(0xd7ff, 0xe000), set(0, 0xd7ff, 0xe000, last),
		{Kind: api.KSet, Set: slices.Repeat([]api.Range{{Low: 'a', High: 'b'}}, 5000)},
	} {
		held(t, n, token)
	}
	for _, n := range []api.Node{
		set(), {Kind: api.KSet, Set: []api.Range{}}, {Kind: api.KSet, Set: make([]api.Range, 0, 3)},
		set('b', 'a'), set('a', 'b', 'b', 'a'), set('b', 'a', 'a', 'b'), set(1, 0), set(last, 0),
		set(-1, 0), set(-1, -1), set('a', -1), set(0, last+1), set(last+1, last+1), set(0xd800, 0xd800), set(0xd800, 0xdfff), set('a', 0xd800), set('a', 0xdfff), set(0xdfff, last), set(0xd800, last),
		set('a', 'b', -1, 'a'), set(-1, 'a', 'a', 'b'), set('a', 'b', 'a', last+1), set(math.MinInt32, math.MaxInt32), set(0, math.MaxInt32), set(math.MinInt32, 0),
	} {
		held(t, n, none)
	}
}

// P3.2: what a kind does not have is nothing.
func TestPlainHasNoMore(t *testing.T) {
	for _, k := range []struct {
		n               api.Node
		name, text, set int // what is left with one
	}{
		{alts(tok("A"), tok("B")), none, none, none},
		{seq(), none, none, none},
		{seq(tok("A"), tok("B")), none, none, none},
		{seq(pred(tok("A")), tok("B")), none, none, none},
		{opt(tok("A")), none, none, none},
		{star(tok("A")), none, none, none},
		{plus(tok("A")), none, none, none},
		{pred(tok("A")), none, none, none},
		{ref("a"), parser, none, none},
		{tok("a"), none, none, none},
		{lit("a"), none, token, none},
		{set('a', 'a'), none, none, token},
	} {
		for _, name := range []string{"a", "_"} {
			n := k.n
			n.Name = name
			want := k.name
			if name == "_" {
				want = none
			}
			held(t, n, want)
			held(t, opt(n), want)
		}
		for _, text := range []string{"a", " ", "\xff"} {
			n := k.n
			n.Text = text
			want := k.text
			if text == "\xff" {
				want = none
			}
			held(t, n, want)
			held(t, opt(n), want)
		}
		for _, l := range [][]api.Range{{{Low: 'a', High: 'b'}}, {{}}} {
			n := k.n
			n.Set = l
			held(t, n, k.set)
			held(t, opt(n), k.set)
		}
	}
	big := tok("A")
	big.Name, big.Text = "A", "A"
	held(t, big, none)
	bare := api.Node{Kind: api.KTok, Name: "A", Set: []api.Range{}, Subs: []api.Node{}} // lists of none are nothing
	held(t, bare, both)
	held(t, seq(bare, bare), both)
	held(t, api.Node{Kind: api.KSeq, Subs: []api.Node{}}, both)
}

// P3.2: the limits themselves are allowed; one more is not.
func TestPlainLimits(t *testing.T) {
	a := tok("A")
	held(t, alts(many(api.MaxAlts, a)...), both)
	held(t, alts(many(api.MaxAlts+1, a)...), none)
	held(t, opt(alts(many(api.MaxAlts+1, a)...)), none)
	held(t, alts(alts(many(api.MaxAlts, a)...), alts(many(api.MaxAlts, a)...)), both)
	held(t, seq(many(api.MaxAlts+1, a)...), both)
	held(t, seq(many(api.MaxNodes-1, a)...), both)
	held(t, seq(many(api.MaxNodes, a)...), none)
	held(t, seq(many(api.MaxNodes/2-1, opt(a))...), both) // one less than MaxNodes in all
	held(t, seq(append(many(api.MaxNodes/2-1, opt(a)), a)...), both)
	held(t, seq(append(many(api.MaxNodes/2-1, opt(a)), opt(a))...), none)
	held(t, opt(seq(many(api.MaxNodes-2, a)...)), both)
	held(t, opt(seq(many(api.MaxNodes-1, a)...)), none)
	for _, k := range []api.Kind{api.KOpt, api.KStar, api.KPlus} {
		held(t, chain(api.MaxDeep-1, k, a), both)
		held(t, chain(api.MaxDeep, k, a), none)
	}
	held(t, chain(api.MaxDeep-1, api.KPred, a), parser)
	held(t, chain(api.MaxDeep, api.KPred, a), none)
	held(t, alts(a, chain(api.MaxDeep-2, api.KOpt, a)), both)
	held(t, alts(a, chain(api.MaxDeep-1, api.KOpt, a)), none)
	held(t, alts(chain(api.MaxDeep-1, api.KOpt, a), a), none)
	held(t, chain(65535, api.KOpt, a), none)
}

// P3.2
func TestText(t *testing.T) {
	a, b, c := tok("A"), ref("b"), tok("C")
	for _, k := range []struct {
		n    api.Node
		want string
	}{
		{a, "A"},
		{b, "b"},
		{tok("Azaz_09"), "Azaz_09"},
		{seq(), "()"},
		{seq(a, b), "A b"},
		{seq(a, b, c), "A b C"},
		{seq(seq(a, b), c), "(A b) C"},
		{seq(a, seq(b, c)), "A (b C)"},
		{seq(seq(), seq()), "() ()"},
		{seq(alts(a, b), c), "(A | b) C"},
		{seq(a, alts(b, c)), "A (b | C)"},
		{seq(opt(a), star(b), plus(c)), "A? b* C+"},
		{seq(opt(seq(a, b)), star(alts(b, c)), plus(opt(c))), "(A b)? (b | C)* (C?)+"},
		{alts(a, b), "A | b"},
		{alts(a, b, c), "A | b | C"},
		{alts(alts(a, b), c), "(A | b) | C"},
		{alts(a, alts(b, c)), "A | (b | C)"},
		{alts(seq(a, b), seq(b, c)), "A b | b C"},
		{alts(seq(), a, seq()), "() | A | ()"},
		{alts(opt(a), star(b), plus(c)), "A? | b* | C+"},
		{opt(a), "A?"},
		{star(b), "b*"},
		{plus(c), "C+"},
		{opt(seq()), "()?"},
		{star(seq()), "()*"},
		{plus(seq()), "()+"},
		{opt(seq(a, b)), "(A b)?"},
		{star(alts(a, b)), "(A | b)*"},
		{opt(opt(a)), "(A?)?"},
		{star(opt(a)), "(A?)*"},
		{plus(star(plus(a))), "((A+)*)+"},
		{plus(lit("ab")), "'ab'+"},
		{star(set('a', 'z')), "[a-z]*"},
		{opt(pred(a)), "((A) =>)?"},
		{star(pred(a)), "((A) =>)*"},
		{plus(pred(alts(a, b))), "((A | b) =>)+"},
		{pred(a), "(A) =>"},
		{pred(seq()), "(()) =>"},
		{pred(seq(a, b)), "(A b) =>"},
		{pred(alts(a, b)), "(A | b) =>"},
		{pred(pred(a)), "((A) =>) =>"},
		{pred(opt(a)), "(A?) =>"},
		{seq(pred(a), b), "(A) => b"},
		{seq(pred(seq(a, b)), b, c), "(A b) => b C"},
		{seq(pred(a), alts(b, c)), "(A) => (b | C)"},
		{seq(pred(a), seq(b, c)), "(A) => (b C)"},
		{seq(pred(a), seq()), "(A) => ()"},
		{seq(a, seq(pred(b), c)), "A ((b) => C)"},
		{alts(pred(a), b), "(A) => | b"},
		{alts(seq(pred(a), b), pred(c)), "(A) => b | (C) =>"},
		{lit("a"), "'a'"},
		{lit("it's [x-y]"), `'it\'s \[x\-y\]'`},
		{lit("\n\r\t\\"), `'\n\r\t\\'`},
		{lit("\x00\u00e9\u20ac\U0010ffff~"), `'\u{0}\u{e9}\u{20ac}\u{10ffff}~'`},
		{lit("\ufffd"), `'\u{fffd}'`},
		{set('a', 'a'), "[a]"},
		{set('a', 'b'), "[a-b]"},
		{set('a', 'z', '_', '_', '0', '9'), "[a-z_0-9]"},
		{set('b', 'b', 'a', 'a'), "[ba]"},
		{set('-', '-', ']', ']', '[', '[', '\\', '\\', '\'', '\''), `[\-\]\[\\\']`},
		{set('\n', '\r', 0, 0x1f, 127, last), `[\n-\r\u{0}-\u{1f}\u{7f}-\u{10ffff}]`},
		{set('+', '-', '-', '/'), `[+-\-\--/]`},
		{seq(set('a', 'a'), lit("b")), "[a] 'b'"},
		{alts(seq(), seq(many(3, alts(a, opt(seq(b, c))))...)), "() | (A | (b C)?) (A | (b C)?) (A | (b C)?)"},
		{chain(4, api.KOpt, a), "(((A?)?)?)?"},
	} {
		if s := nodes.Text(k.n); s != k.want {
			t.Errorf("Text: %s; want %s", s, k.want)
		}
	}
	deep := strings.Repeat("(", 65534) + "A*" + strings.Repeat(")*", 65534)
	if nodes.Text(chain(65535, api.KStar, a)) != deep {
		t.Error("Text of a deep one")
	}
}

// P3.2: of what is not plain the text has what there is.
func TestTextOfOthers(t *testing.T) {
	a, b := tok("A"), tok("B")
	for _, k := range []struct {
		n    api.Node
		want string
	}{
		{api.Node{}, ""},
		{alts(a), "A"},
		{alts(alts(a, b)), "(A | B)"},
		{seq(a), "A"},
		{seq(seq(a)), "(A)"},
		{seq(a, pred(b)), "A (B) =>"},
		{opt(seq(a)), "(A)?"},
		{node(api.KOpt), "?"},
		{node(api.KStar), "*"},
		{node(api.KPlus), "+"},
		{node(api.KPred), "() =>"},
		{with(opt(a), b), "A?"}, // its Sub is the first one
		{with(pred(a), b), "(A) =>"},
		{tok(""), ""},
		{ref("\xff "), "\xff "}, // the name itself, whatever it is
		{with(ref("a"), b), "a"},
		{lit(""), "''"},
		{lit("a\xffb\xe2\x82"), "'ab'"}, // bytes that belong to no rune have no text
		{set(), "[]"},
		{set('b', 'a'), "[b-a]"},
		{set(-1, 'a', 'b', last+1, 0xd800, 0xd800), "[-ab-]"},
		{node(api.KSet+1, a), ""},
		{node(255, a), ""},
		{opt(node(77)), "()?"},
		{api.Node{Kind: api.KSeq, Name: "a", Text: "b", Set: []api.Range{{}}}, "()"},
		{api.Node{Kind: api.KTok, Name: "A", Text: "b", Set: []api.Range{{}}}, "A"},
		{api.Node{Kind: api.KLit, Name: "a", Text: "b", Set: []api.Range{{}}}, "'b'"},
		{api.Node{Kind: api.KSet, Name: "a", Text: "b", Set: []api.Range{{Low: 'c', High: 'c'}}}, "[c]"},
	} {
		if s := nodes.Text(k.n); s != k.want {
			t.Errorf("Text: %s; want %s", s, k.want)
		}
	}
}

// grown are all nodes of leaves and of kinds with Subs, by how many they are: the i-th list has those of i.
func grown(most int, leaves []api.Node) [][]api.Node {
	all := make([][]api.Node, most+1)
	all[1] = leaves
	for count := 2; count <= most; count++ {
		for k := api.KAlts; k <= api.KPred; k++ {
			for _, subs := range rows(count-1, all) {
				all[count] = append(all[count], node(k, subs...))
			}
		}
	}
	return all
}

// rows are all lists of nodes that are so many together.
func rows(count int, all [][]api.Node) [][]api.Node {
	if count == 0 {
		return [][]api.Node{nil}
	}
	var out [][]api.Node
	for first := 1; first <= count; first++ {
		for _, rest := range rows(count-first, all) {
			for _, n := range all[first] {
				out = append(out, append([]api.Node{n}, rest...))
			}
		}
	}
	return out
}

// plainly tells by the chapter's words whether a node is plain but for its limits; seated: a KPred may be here.
func plainly(n api.Node, token, seated bool) bool {
	for i, s := range n.Subs {
		may := n.Kind <= api.KPlus || n.Kind == api.KPred
		if n.Kind == api.KSeq && i > 0 {
			may = false
		}
		if !plainly(s, token, may) {
			return false
		}
	}
	c := len(n.Subs)
	bare := n.Name == "" && n.Text == "" && len(n.Set) == 0
	switch {
	case n.Kind == api.KAlts:
		return bare && 2 <= c && c <= 32
	case n.Kind == api.KSeq:
		return bare && c != 1
	case n.Kind <= api.KPlus:
		return bare && c == 1
	case n.Kind == api.KPred:
		return bare && c == 1 && seated && !token
	case n.Kind == api.KRef:
		return n.Name == "a" && !token && c == 0
	case n.Kind == api.KTok:
		return n.Name == "A" && c == 0
	}
	return (n.Kind == api.KLit || n.Kind == api.KSet) && token && c == 0
}

// spelt tells by the chapter's words what a plain node's text is.
func spelt(n api.Node) string {
	var subs []string
	for _, s := range n.Subs {
		text := spelt(s)
		short := strings.Contains(" 5 6 8 9 ", " "+strconv.Itoa(int(s.Kind))+" ") || s.Kind == api.KSeq && len(s.Subs) == 0
		switch {
		case n.Kind == api.KAlts && s.Kind == api.KAlts,
			n.Kind == api.KSeq && (s.Kind == api.KAlts || s.Kind == api.KSeq && !short),
			n.Kind >= api.KOpt && n.Kind <= api.KPlus && !short,
			n.Kind == api.KPred:
			text = "(" + text + ")"
		}
		subs = append(subs, text)
	}
	switch {
	case n.Kind == api.KAlts:
		return strings.Join(subs, " | ")
	case n.Kind == api.KSeq && len(subs) == 0:
		return "()"
	case n.Kind == api.KSeq:
		return strings.Join(subs, " ")
	case n.Kind <= api.KPlus:
		return subs[0] + "?*+"[n.Kind-api.KOpt:n.Kind-api.KOpt+1]
	case n.Kind == api.KPred:
		return subs[0] + " =>"
	case n.Kind == api.KLit:
		return "'" + n.Text + "'"
	case n.Kind == api.KSet:
		return "[" + string(n.Set[0].Low) + "]"
	}
	return n.Name
}

// P3.1 to P3.4: all small nodes, held against what the words tell of them.
func TestSmallNodes(t *testing.T) {
	leaves := []api.Node{ref("a"), tok("A"), seq(), lit("a"), set('a', 'a'), node(api.KPred), ref("A"), node(api.KSet + 1)}
	texts := map[string]api.Node{}
	for count, l := range grown(4, leaves) {
		for _, n := range l {
			plain := false
			for _, token := range []bool{false, true} {
				if nodes.Plain(n, token) != plainly(n, token, true) {
					t.Fatalf("Plain(%v, %t): %t", n, token, !plainly(n, token, true))
				}
				plain = plain || nodes.Plain(n, token)
			}
			if nodes.Count(n) != count || !nodes.Same(nodes.Copy(n), n) {
				t.Fatalf("%v: not %d, or not the same", n, count)
			}
			if !plain {
				continue
			}
			s := nodes.Text(n)
			if s != spelt(n) {
				t.Fatalf("Text: %s; want %s", s, spelt(n))
			}
			if other, twice := texts[s]; twice {
				t.Fatalf("%s: of %v and of %v", s, n, other)
			}
			texts[s] = n
		}
	}
	if len(texts) < 900 {
		t.Error("no more than", len(texts), "plain ones")
	}
}

// P3.4: of each sort, nodes that are greater, or have leaves that go wrong most easily.
func TestNoTwoHaveOneText(t *testing.T) {
	hard := []api.Node{seq(), tok("A")}
	for _, s := range []string{"a", "a' 'a", "a'", "'", "''", "\\", "\\'", "\\\\", "n", "\n", "\\n", "u{41}", "\\u{41}", "\u00e9", "e9", "()", "A", " ", "  ", "a b", "[a]", "]", "[", "-", "a-c", "abc", "| 'a", "\ufffd"} {
		hard = append(hard, lit(s))
	}
	for _, l := range [][]rune{{'a', 'c'}, {'a', 'b', 'c', 'c'}, {'a', 'a', '-', '-', 'c', 'c'}, {'a', 'a', 'b', 'c'}, {'a', 'a', 'b', 'b', 'c', 'c'}, {'a', 'a', 'c', 'c'}, {'-', '-'}, {'\\', '\\', '-', '-'}, {'\\', '-'}, {'-', '-', 'a', 'a'}, {'-', 'a'}, {'a', 'a', '-', '-'}, {'a', 'a'}, {'a', 'a', 'a', 'a'}, {']', ']'}, {'\\', '\\', ']', ']'}, {'\'', '\''}, {'\n', '\n'}, {'\\', '\\', 'n', 'n'}, {'n', 'n'}, {0, last}, {0, 0xd7ff, 0xe000, last}, {'A', 'A'}} {
		hard = append(hard, set(l...))
	}
	for _, k := range []struct {
		most   int
		token  bool
		leaves []api.Node
	}{
		{6, false, []api.Node{tok("A"), seq()}},
		{5, false, []api.Node{ref("a"), tok("A"), tok("Aa"), seq()}},
		{6, true, []api.Node{lit("a"), seq()}},
		{3, true, hard},
	} {
		texts := map[string]int{}
		plain := 0
		for _, l := range grown(k.most, k.leaves) {
			for _, n := range l {
				if nodes.Plain(n, k.token) {
					plain++
					texts[nodes.Text(n)]++
				}
			}
		}
		if len(texts) != plain || plain < 1000 {
			t.Errorf("%d plain nodes, %d texts", plain, len(texts))
		}
	}
}

// P3.3
func TestCopy(t *testing.T) {
	for _, n := range append(samples(), chain(65535, api.KPlus, lit("a"))) {
		c := nodes.Copy(n)
		if !nodes.Same(c, n) || !equal(c, n) {
			t.Errorf("Copy(%.200s): %.200s", nodes.Text(n), nodes.Text(c))
		}
	}
	one := opt(tok("A")) // that nodes share Subs makes no difference to what they are
	c := nodes.Copy(seq(one, one, alts(one, one)))
	c.Subs[0].Subs[0].Name = "B"
	c.Subs[2].Subs[0].Subs[0].Name = "C"
	if s := nodes.Text(c); s != "B? A? (C? | A?)" {
		t.Error("parts of a copy share memory:", s)
	}
}

// equal holds nodes against each other by themselves, lists of none as other than those that are not there.
func equal(a, b api.Node) bool {
	if a.Kind != b.Kind || a.Name != b.Name || a.Text != b.Text || !reflect.DeepEqual(a.Set, b.Set) || (a.Subs == nil) != (b.Subs == nil) || len(a.Subs) != len(b.Subs) {
		return false
	}
	for i := range a.Subs {
		if !equal(a.Subs[i], b.Subs[i]) {
			return false
		}
	}
	return true
}

// spoil makes something else of all that a node's lists have.
func spoil(n api.Node) {
	for i := range n.Set {
		n.Set[i] = api.Range{Low: -7, High: -8}
	}
	for i, s := range n.Subs {
		spoil(s)
		n.Subs[i] = api.Node{Kind: 99, Name: "spoilt"}
	}
}

// P3.3, R4: to change the copy changes nothing of the node, nor the other way round; nothing is in the room behind.
func TestCopyIsApart(t *testing.T) {
	for i, n := range samples() {
		c := nodes.Copy(n)
		roomless(t, c)
		spoil(c)
		if !equal(n, samples()[i]) {
			t.Errorf("%d: the node has changed with its copy", i)
		}
		c = nodes.Copy(n)
		spoil(n)
		if !equal(c, samples()[i]) {
			t.Errorf("%d: the copy has changed with its node", i)
		}
	}
	wide := node(api.KSeq, append(make([]api.Node, 0, 10), tok("A"), tok("B"))...)
	wide.Subs[0].Set = append(make([]api.Range, 0, 10), api.Range{Low: 1, High: 2})
	wide.Subs[1].Set, wide.Subs[1].Subs = make([]api.Range, 0, 10), make([]api.Node, 0, 10)
	c := nodes.Copy(wide)
	roomless(t, c)
	if !equal(c, wide) {
		t.Error("the copy of one with room behind")
	}
	_ = append(wide.Subs[1].Subs, tok("C"))
	_ = append(wide.Subs[1].Set, api.Range{Low: 3, High: 4})
	roomless(t, c)
}

func roomless(t *testing.T, n api.Node) {
	t.Helper()
	if cap(n.Set) != len(n.Set) || cap(n.Subs) != len(n.Subs) {
		t.Errorf("%d ranges, room for %d; %d Subs, room for %d", len(n.Set), cap(n.Set), len(n.Subs), cap(n.Subs))
	}
	for _, s := range n.Subs {
		roomless(t, s)
	}
}

// R1, R4: copies and texts stay what they are when the memory of a node's names and texts becomes something else.
func TestNamesAreNotKept(t *testing.T) {
	memory := []byte("abcdef")
	name := unsafe.String(&memory[0], len(memory))
	one := api.Node{Kind: api.KRef, Name: name, Text: name}
	for _, n := range []api.Node{one, opt(one), seq(tok("A"), one), alts(one, one)} {
		copy(memory, "abcdef")
		c, s := nodes.Copy(n), nodes.Text(n)
		again := strings.Clone(s)
		clear(memory)
		if s != again {
			t.Error("the text shares memory with the node")
		}
		copy(memory, "zzzzzz")
		copied := c
		for len(copied.Subs) > 0 {
			copied = copied.Subs[len(copied.Subs)-1]
		}
		if copied.Name != "abcdef" || copied.Text != "abcdef" {
			t.Error("the copy shares memory with the node:", copied.Name, copied.Text)
		}
	}
}

// R1, R5: whatever is handed in stays as it is, and is answered with the same again.
func TestWhateverIsHandedIn(t *testing.T) {
	all := samples()
	for i, n := range all {
		for _, token := range []bool{false, true} {
			if nodes.Plain(n, token) != nodes.Plain(n, token) {
				t.Errorf("%d: Plain: not the same again", i)
			}
		}
		if nodes.Count(n) != nodes.Count(n) || nodes.Deep(n) != nodes.Deep(n) || nodes.Text(n) != nodes.Text(n) || !equal(nodes.Copy(n), nodes.Copy(n)) {
			t.Errorf("%d: not the same again", i)
		}
		for j, m := range all {
			if nodes.Same(n, m) != nodes.Same(m, n) || nodes.Same(n, m) != reflect.DeepEqual(whole(n), whole(m)) {
				t.Errorf("Same of %d and %d: %t", i, j, nodes.Same(n, m))
			}
		}
	}
	for i, n := range samples() {
		if !equal(all[i], n) {
			t.Errorf("%d has changed", i)
		}
	}
}

// whole is a node without lists of none.
func whole(n api.Node) api.Node {
	n = twin(n)
	if len(n.Set) == 0 {
		n.Set = nil
	}
	if len(n.Subs) == 0 {
		n.Subs = nil
	}
	for i, s := range n.Subs {
		n.Subs[i] = whole(s)
	}
	return n
}

// R1: of a node that is within itself each call ends, with nothing.
func TestRings(t *testing.T) {
	for i, n := range rings() {
		if nodes.Plain(n, false) || nodes.Plain(n, true) {
			t.Errorf("%d: plain", i)
		}
		if nodes.Count(n) != 0 || nodes.Deep(n) != 0 || nodes.Text(n) != "" || !nodes.Same(nodes.Copy(n), api.Node{}) {
			t.Errorf("%d: more than nothing", i)
		}
		if nodes.Same(n, n) || nodes.Same(n, tok("A")) || nodes.Same(tok("A"), n) || nodes.Same(n, chain(9, n.Kind, tok("A"))) || nodes.Same(chain(9, n.Kind, tok("A")), n) {
			t.Errorf("%d: the same", i)
		}
	}
	shared := tok("A") // few nodes in memory, but more than can be gone through one by one
	for range 63 {
		shared = alts(shared, shared)
	}
	if nodes.Plain(shared, false) || nodes.Plain(shared, true) {
		t.Error("2 to the 64th nodes are plain")
	}
}
