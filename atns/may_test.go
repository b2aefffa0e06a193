package atns_test

import (
	"math"
	"math/rand/v2"
	"slices"
	"testing"

	"harbinger/atns"
	. "harbinger/made"
)

// P12.2: nets that may be.
func TestMay(t *testing.T) {
	for _, line := range []string{
		"", // nothing is told
		":",
		"0/0: .",
		"0/1: .; .",
		"0/1: >1; .",
		"1/0: >0; >1 >1 >0",
		"1/1 0/1 1/0: .; @2 .",
		"0/1: t0>1 t1>0 >1 t9999>0; .",
		"0/1: t9223372036854775807>1; .",
		"0/1: r0>0 r0>1; r0>1",
		"0/1 0/0: r1>0; @1 r0>1",
		"0/1 p0: .; .",
		"0/1 p0 p0: p0>0 p1>1; p1>0",
		"0/1 p0: p0>1 r0>1 t0>1 >1; .",
		"0/0: >0 >0 !0 !0",
		"1/0: >0 >1 >0 !1 !1 !0; .",
		"0/1: >1 >1 !1 !1; >0 >0 >0 >0 !0 !0 !0 !0",
		"0/1: .; .; >2; @0 t0>1", // what nothing leads to
	} {
		if !atns.May(Net(line)) {
			t.Error(line, "may not be")
		}
	}
	empty := Net("0/1: .; .")
	empty.Preds, empty.Decisions, empty.States[1] = []int{}, []int{}, atns.State{Edges: []atns.Edge{}, Ends: []int{}}
	if !atns.May(empty) {
		t.Error("a net with empty lists may not be")
	}
}

// P12.2: nets that may not be, each for one thing.
func TestMayNot(t *testing.T) {
	for _, line := range []string{
		": .", // the state of no rule
		"0/0:",
		"p0:",

		"2/1: .; .", // states that there are not
		"-1/1: .; .",
		"0/2: .; .",
		"0/-1: .; .",
		"9223372036854775807/0: .; .",
		"0/1: >2; .",
		"0/1: .; >-1",
		"0/1: .; t0>2",
		"0/1: .; r0>2",
		"0/1 p0: .; p0>-1",
		"0/1: .; .; >3",
		"0/1: .; .; >-9223372036854775808",
		"0/1: >1 >1 !1 !2; .",
		"0/1: >1 >1 !-1 !1; .",
		"0/1: >1 >2 !1 !1; .",

		"0/1: @1 .; @0 .", // rules, predicates, tokens
		"0/1: .; @-1 .",
		"0/1: .; @9223372036854775807 .",
		"0/1: r1>1; .",
		"0/1: r-1>1; .",
		"0/1 0/1: >1; r2>0",
		"0/1: p0>1; .",
		"0/1 p0: p1>1; .",
		"0/1 p0: p-1>1; .",
		"0/1: t-1>1; .",
		"0/1: t-9223372036854775808>1; .",
		"0/1: e1>1; .",
		"0/1: e-1>1; .",

		"0/1 p1: .; .", // the state behind
		"0/1 p2: .; .",
		"0/1 p-1: .; .",
		"0/1 p0 p9223372036854775807: .; .",
		"0/0 p0: .",

		"0/1: >1 !1; .", // Ends
		"0/1: !1; .",
		"0/1: !1 !1; .",
		"0/1: >1 >1 !1; .",
		"0/1: >1 !1 !1; .",
		"0/1: >1 >1 >1 !1 !1; .",
		"0/1: >1 >1 !1 !1 !1; .",
		"0/1: >1 t0>1 !1 !1; .",
		"0/1: r0>1 >1 !1 !1; .",
		"0/1 p0: >1 >1 p0>1 !1 !1 !1; .",
		"0/1: >1 e1>1 !1 !1; .",
	} {
		if atns.May(Net(line)) {
			t.Error(line, "may be")
		}
	}
}

// P12.2: nets of which a list, or a kind, is another one than a line can tell.
func TestMayNotOtherwise(t *testing.T) {
	for name, change := range map[string]func(n *atns.Net){
		"no Starts":               func(n *atns.Net) { n.Starts = nil },
		"no Stops":                func(n *atns.Net) { n.Stops = nil },
		"more Starts":             func(n *atns.Net) { n.Starts = append(n.Starts, 0) },
		"more Stops":              func(n *atns.Net) { n.Stops = append(n.Stops, 0) },
		"no states":               func(n *atns.Net) { n.States = nil },
		"a state less":            func(n *atns.Net) { n.States = n.States[:4] },
		"no decisions":            func(n *atns.Net) { n.Decisions = nil },
		"a decision less":         func(n *atns.Net) { n.Decisions = n.Decisions[1:] },
		"a decision less, behind": func(n *atns.Net) { n.Decisions = n.Decisions[:1] },
		"a decision more":         func(n *atns.Net) { n.Decisions = []int{1, 2, 3} },
		"a decision twice":        func(n *atns.Net) { n.Decisions = []int{1, 1, 3} },
		"another decision":        func(n *atns.Net) { n.Decisions = []int{1, 2} },
		"a decision that is none": func(n *atns.Net) { n.Decisions = []int{1, 3, 5} },
		"decisions that fall":     func(n *atns.Net) { n.Decisions = []int{3, 1} },
		"a kind that is none":     func(n *atns.Net) { n.States[0].Edges[0].Kind = atns.EdPred + 1 },
		"no kind at all":          func(n *atns.Net) { n.States[0].Edges[0].Kind = math.MaxUint8 },
		"such a kind of a token":  func(n *atns.Net) { n.States[4].Edges[0].Kind = 7 },
		"more Ends":               func(n *atns.Net) { n.States[4].Ends = []int{4} },
		"no Ends":                 func(n *atns.Net) { n.States[3].Ends = nil },
	} {
		n := Net("0/2 p3: p0>1; >2 >0 !2 !1; .; >2 >4 !4 !4; t1>3")
		if !atns.May(n) {
			t.Fatal("it may not be")
		}
		if change(&n); atns.May(n) {
			t.Error(name, "may be")
		}
	}
}

// mayBe is a second reading of the chapter's words: first all numbers are put together by what they tell.
func mayBe(n atns.Net) bool {
	states := slices.Concat(n.Starts, n.Stops, n.Preds, n.Decisions)
	var rules, preds, tokens, decisions []int
	for _, p := range n.Preds {
		states = append(states, p+1)
	}
	for i, s := range n.States {
		rules = append(rules, s.Rule)
		states = append(states, s.Ends...)
		for _, e := range s.Edges {
			states = append(states, e.To)
			switch e.Kind {
			case atns.EdRule:
				rules = append(rules, e.What)
			case atns.EdPred:
				preds = append(preds, e.What)
			default:
				tokens = append(tokens, e.What)
			}
			if e.Kind > 3 || e.Kind == atns.EdEmpty && e.What != 0 || e.Kind != atns.EdEmpty && len(s.Ends) > 0 {
				return false
			}
		}
		if len(s.Ends) > 0 {
			decisions = append(decisions, i)
			if len(s.Edges) != len(s.Ends) || len(s.Edges) == 1 {
				return false
			}
		}
	}
	within := func(l []int, below int) bool {
		return len(l) == 0 || slices.Min(l) >= 0 && slices.Max(l) < below
	}
	return len(n.Starts) == len(n.Stops) && slices.Equal(decisions, n.Decisions) &&
		within(states, len(n.States)) && within(rules, len(n.Starts)) && within(preds, len(n.Preds)) && (len(tokens) == 0 || slices.Min(tokens) >= 0)
}

// P12.2: whatever nets, some of them spoiled, held against the second reading.
func TestWhateverMay(t *testing.T) {
	r := rand.New(rand.NewPCG(12, 2))
	may, not := 0, 0
	for range 200000 {
		n := DrawnNet(r.IntN)
		if !atns.May(n) {
			t.Fatal(NetLine(n), "may not be")
		}
		for range 1 + r.IntN(2) {
			SpoilNet(r.IntN, &n)
		}
		was := CopiedNet(n)
		ok := atns.May(n)
		if ok != mayBe(n) {
			t.Fatal(n, ok)
		}
		if ok {
			may++
		} else {
			not++
		}
		if !slices.Equal(n.Decisions, was.Decisions) || !slices.EqualFunc(n.States, was.States, sameState) {
			t.Fatal(was, "is another one then:", n)
		}
	}
	if may < 20000 || not < 20000 {
		t.Errorf("%d may be, %d may not", may, not)
	}
}

func sameState(a, b atns.State) bool {
	return a.Rule == b.Rule && slices.Equal(a.Edges, b.Edges) && slices.Equal(a.Ends, b.Ends)
}
