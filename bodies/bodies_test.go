package bodies_test

import (
	"slices"
	"strconv"
	"testing"

	"harbinger/api"
	"harbinger/bodies"
	. "harbinger/made"
)

// tree is of nodes of whatever kinds, whose names tell in which order they stand.
func tree() api.Node {
	named := func(n api.Node, name string) api.Node {
		n.Name = name
		return n
	}
	a := named(Alts(Tok("2"), named(Star(named(Node(api.KSet+1, Tok("5")), "4"), Ref("6")), "3"), named(Lit("x"), "7")), "1")
	return named(Node(api.KTok, a, Tok("8")), "0")
}

func TestParts(t *testing.T) {
	levels := []int{1, 2, 3, 3, 4, 5, 4, 3, 2}
	at := 0
	for level, n := range bodies.Parts(tree()) {
		if at >= len(levels) || level != levels[at] || n.Name != strconv.Itoa(at) {
			t.Fatalf("part %d: %s on level %d", at, n.Name, level)
		}
		at++
	}
	if at != len(levels) {
		t.Errorf("%d parts", at)
	}
}

// Whoever ranges over the parts may leave at each of them.
func TestPartsLeft(t *testing.T) {
	for most := 1; most <= 9; most++ {
		var seen []string
		for _, n := range bodies.Parts(tree()) {
			seen = append(seen, n.Name)
			if len(seen) == most {
				break
			}
		}
		if !slices.Equal(seen, []string{"0", "1", "2", "3", "4", "5", "6", "7", "8"}[:most]) {
			t.Error(most, seen)
		}
	}
	for _, n := range Rings(Tok("A")) {
		count := 0
		for range bodies.Parts(n) {
			if count++; count == 100000 {
				break
			}
		}
		if count != 100000 {
			t.Error(n.Kind, count)
		}
	}
}

func TestEnds(t *testing.T) {
	for _, n := range []api.Node{{}, Seq(), Tok("A"), tree(), Chain(1<<16, api.KOpt, Tok("A")), Alts(Tok("A"), Chain(1<<16-1, api.KSeq, tree()))} {
		if !bodies.Ends(n) {
			t.Errorf("a node of kind %d that ends does not", n.Kind)
		}
	}
	for _, n := range Rings(Tok("A")) {
		for _, n := range []api.Node{n, Seq(Tok("A"), n, Tok("B")), Node(api.KLit, n)} {
			if bodies.Ends(n) {
				t.Errorf("a node of kind %d that is within itself ends", n.Kind)
			}
		}
	}
}
