package mins_test

import (
	"math"
	"reflect"
	"slices"
	"strings"
	"testing"
	"unsafe"

	"harbinger/api"
	. "harbinger/made"
	"harbinger/mins"
	"harbinger/subsets"
)

// least is the least table of one that may be.
func least(t *testing.T, table subsets.Table) subsets.Table {
	t.Helper()
	out, e := mins.Least(table)
	if e != api.OK {
		t.Fatalf("Least(%.500s): error %d", Line(table), e)
	}
	if !subsets.May(out) {
		t.Fatalf("Least(%.500s): a table that may not be: %v", Line(table), out)
	}
	return out
}

// told holds the least table against what is awaited, and that it is its own least one.
func told(t *testing.T, table subsets.Table, want string) {
	t.Helper()
	out := least(t, table)
	if s := Line(out); s != want {
		t.Errorf("Least(%.500s):\n%.1000s, not\n%.1000s", Line(table), s, want)
	}
	if again := least(t, out); !reflect.DeepEqual(again, out) {
		t.Errorf("Least(%.500s): then %.500s", Line(out), Line(again))
	}
	if !mins.Alike(table, out) || !mins.Alike(out, table) {
		t.Errorf("%.500s is not alike", Line(table))
	}
}

// P10.1: the chapter's example, number by number.
func TestExample(t *testing.T) {
	a := []api.Range{{Low: 'a', High: 'a'}}
	out, e := mins.Least(subsets.Table{Ranges: a, Class: []int{0}, Next: [][]int{{1}, {2}, {1}}, Ends: []int{-1, 0, 0}})
	want := subsets.Table{Ranges: a, Class: []int{0}, Next: [][]int{{1}, {1}}, Ends: []int{-1, 0}}
	if e != api.OK || !reflect.DeepEqual(out, want) {
		t.Error(out, e)
	}
}

// P10.1: tables of few states.
func TestTables(t *testing.T) {
	for _, k := range []struct{ table, want string }{
		{":", ":"},
		{": !0", ": !0"},
		{": !3; !4", ": !3"}, // what nothing leads to
		{"a: !0; a>0 !1", ": !0"},
		{"a b: a>1; !0; a>1 b>1 !0", "a: a>1; !0"},
		{"a b: a>2; b>0 !1; !0", "a: a>1; !0"},

		{"a: a>1;", ":"}, // what leads to no end
		{"a: a>0", ":"},
		{"a b: a>1 b>0; a>0 b>1", ":"},
		{"a: a>0;!1", ":"},
		{"a b: a>1 b>2; a>1; !0", "b: b>1; !0"},
		{"a b: a>1 b>3; a>2; a>1; !0", "b: b>1; !0"},
		{"a b: a>1; b>2 !0; b>2", "a: a>1; !0"},
		{"a b: a>1 !0; b>1", ": !0"},
		{"a b c: a>1 c>1; b>2 !0;", "a,c: a>1; !0"}, // a range between is none any more
		{"a b: a>0 b>1; a>1 !0", "a b: a>0 b>1; a>1 !0"},
		{"a b: a>2 b>1; a>1; b>0 !0", "a b: a>1; b>0 !0"}, // a state between is none any more

		{"a: a>1; a>2; !0", "a: a>1; a>2; !0"}, // nothing is too much
		{"a b: a>1 b>2; b>2; !0", "a b: a>1 b>2; b>2; !0"},
		{"a: a>1 !0; !0", "a: a>1 !0; !0"},
		{"a: a>1 !0; a>0", "a: a>1 !0; a>0"},
		{"a b: a>1 b>2; !0; !1", "a b: a>1 b>2; !0; !1"},
		{"a b: a>1 b>2; b>3; a>3; !0", "a b: a>1 b>2; b>3; a>3; !0"},

		{"a: a>1; a>2 !0; a>1 !0", "a: a>1; a>1 !0"},
		{"a: a>1 !0; a>0 !0", "a: a>0 !0"}, // the beginning too
		{"a: a>1 !7; a>2 !7; a>1 !7", "a: a>0 !7"},
		{"a b: a>1 b>2; a>1 b>2; !0", "a b: a>0 b>1; !0"},
		{"a: a>1; a>2; a>3 !0; a>4; a>5; a>0 !0", "a: a>1; a>2; a>0 !0"},
		{"a: a>1; a>2; a>3 !0; a>4; a>0 !0", "a: a>1; a>2; a>3 !0; a>4; a>0 !0"}, // a ring of 3 and one of 2
		{"a: a>1; a>2; a>3; a>4; a>5; a>0 !0", "a: a>1; a>2; a>3; a>4; a>5; a>0 !0"},
		{"a: a>1; a>2 !0; a>3; a>4 !0; a>5; a>2 !0", "a: a>1; a>0 !0"},
		{"a b: a>1 b>2; b>3; b>3; !0", "a b: a>1 b>1; b>2; !0"},
		{"a b c: a>1 b>2; c>3; c>4; !0; !0", "a-b c: a-b>1; c>2; !0"},
		{"a b c: a>1 b>2; c>3; c>4; !0; !1", "a b c: a>1 b>2; c>3; c>4; !0; !1"}, // by what ends two runes on
		{"a b c: a>1 b>2 c>1; a>3; a>3 b>3; !0", "a b c: a>1 b>2 c>1; a>3; a>3 b>3; !0"},

		{"a b: a>1 b>1; !0", "a-b: a-b>1; !0"}, // ranges
		{"a,b: a>1; !0", "a-b: a-b>1; !0"},
		{"b a: b>1 a>1; !0", "a-b: a-b>1; !0"},
		{"a b: a>1 b>2; !0; !0", "a-b: a-b>1; !0"},
		{"a-c d e-g,h x: a-c>1 d>1 e-g>1 x>1; !0", "a-h,x: a-h>1; !0"},
		{"a c: a>1 c>1; !0", "a,c: a>1; !0"},
		{"a,c b: a>1 b>2; !0; !1", "a,c b: a>1 b>2; !0; !1"},
		{"a-c d-f: a-c>1 d-f>2; !0; !1", "a-c d-f: a-c>1 d-f>2; !0; !1"},
		{"a b c d: a>1 b>2 c>1 d>2; !0; !1", "a,c b,d: a>1 b>2; !0; !1"},
		{"a b c d: a>1 b>2 c>2 d>1; !0; !1", "a,d b-c: a>1 b-c>2; !0; !1"},
		{"a b c: a>1 b>1 c>1; a>1 b>1 !0", "a-b c: a-b>1 c>1; a-b>1 !0"},
		{"a b c: a>1; c>2; !0", "a c: a>1; c>2; !0"}, // no step at all
		{"a b c: a>1 c>1; c>1 a>1 !0", "a,c: a>1; a>1 !0"},
		{"b c: b>1; b>1 c>3 !0; c>1; c>3", "b: b>1; b>1 !0"},
		{"0-55295 55296-57343 57344-1114111: 0-55295>1 55296-57343>1 57344-1114111>1; !0", "0-1114111: 0-1114111>1; !0"},

		{"a b: a>2 b>1; !0; !1", "a b: a>1 b>2; !1; !0"}, // as they are found
		{"b a: a>1 b>2; !0; !1", "a b: a>1 b>2; !0; !1"},
		{"b a: a>2 b>1; !0; !1", "a b: a>1 b>2; !1; !0"},
		{"c a,e b: a>3 b>1 c>2; !0; !1; !2", "a,e b c: a>1 b>2 c>3; !2; !0; !1"},
		{"a b: a>3 b>2; !0; a>1; b>4; !1", "a b: a>1 b>2; b>3; a>4; !1; !0"},
		{"b,d a,c: b>1 a>2; b>2; a>1 !0", "a,c b,d: a>1 b>2; a>2 !0; b>1"},
		{"a b: b>1; b>2; a>3 !0; b>1", "a b: b>1; b>2; a>0 !0"},

		{"a b: a>1 b>2; !0; !9223372036854775807", "a b: a>1 b>2; !0; !9223372036854775807"}, // what ends
		{"a b: a>1 b>2; !256; !0", "a b: a>1 b>2; !256; !0"},
		{"a b: a>1 b>2; !4294967296; !0", "a b: a>1 b>2; !4294967296; !0"},
		{"a: a>1 !5; a>1 !4", "a: a>1 !5; a>1 !4"},
		{"a: a>1 !5; a>2 !4; a>1 !4", "a: a>1 !5; a>1 !4"},
	} {
		told(t, Table(k.table), k.want)
	}
}

// P10.1: tokens as one writes them.
func TestTexts(t *testing.T) {
	for _, k := range []struct{ text, want string }{
		{"", ":"},
		{"A : 'a' ;", "a: a>1; !0"},
		{"A : 'ab'* [x] ;", "a b x: a>1 x>2; b>0; !0"},
		{"A : 'a' 'a'* ;", "a: a>1; a>1 !0"},
		{"A : ('a' | 'b')+ 'b' ;", "a b: a>1 b>1; a>1 b>2; a>1 b>2 !0"},
		{"A : [a-cx-z] ;", "a-c,x-z: a-c>1; !0"},
		{"A : [a-c] | [d-f] ;", "a-f: a-f>1; !0"},
		{"A : [a-c] ; B : [d-f] ;", "a-c d-f: a-c>1 d-f>2; !0; !1"},
		{"A : 'if' ; B : [a-z]+ ;", "a-e,g-h,j-z f i: a-e>1 f>1 i>2; a-e>1 f>1 i>1 !1; a-e>1 f>3 i>1 !1; a-e>1 f>1 i>1 !0"},
		{"B : [a-z]+ ; A : 'if' ;", "a-z: a-z>1; a-z>1 !0"},
		{"A : 'do' | 'go' | 'to' ;", "d,g,t o: d>1; o>2; !0"},
		{"A : 'abc' | 'xbc' | 'bc' ;", "a,x b c: a>1 b>2; b>2; c>3; !0"},
		{"A : ~[b] ;", "0-a,c-55295,57344-1114111: 0-a>1; !0"},
		{"A : . 'x' ;", "0-w,y-55295,57344-1114111 x: 0-w>1 x>1; x>2; !0"},
		{"A : 'a' ; skip S : ' '+ ; B : 'b' ;", "32 a b: 32>1 a>2 b>3; 32>1 !1; !0; !2"},
		{"A : 'x'? [a-b] 'y' | [c-d] 'y' ;", "a-b c-d x y: a-b>1 c-d>1 x>2; y>3; a-b>1; !0"},
	} {
		told(t, Lexed(k.text), k.want)
	}
}

// P10.1: all numbers that a rune's type has stand for themselves; at the ends nothing touches.
func TestNumbers(t *testing.T) {
	table := subsets.Table{
		Ranges: Set(math.MinInt32, math.MinInt32, math.MinInt32+1, -1, 0, 5, 7, 7, 8, math.MaxInt32-1, math.MaxInt32, math.MaxInt32).Set,
		Class:  []int{4, 3, 5, 1, 2, 0},
		Next:   [][]int{{1, 1, 1, 1, 1, 1}, {-1, -1, -1, -1, -1, -1}},
		Ends:   []int{-1, 0},
	}
	told(t, table, "-2147483648-5,7-2147483647: -2147483648-5>1; !0")
	table.Next[1][0] = 1
	told(t, table, "-2147483648-5,7-2147483646 2147483647: -2147483648-5>1 2147483647>1; 2147483647>1 !0")
	table.Next[1][4] = 1
	told(t, table, "-2147483648,2147483647 -2147483647-5,7-2147483646: -2147483648>1 -2147483647-5>1; -2147483648>1 !0")
}

// ring is a table of so many states in a ring, by a; at those that are told 0 ends, at the others 1.
func ring(states int, at ...int) subsets.Table {
	table := subsets.Table{Ranges: Set('a', 'a').Set, Class: []int{0}}
	for state := range states {
		end := 1
		if slices.Contains(at, state) {
			end = 0
		}
		table.Next, table.Ends = append(table.Next, []int{(state + 1) % states}), append(table.Ends, end)
	}
	return table
}

// P10.1: many states that come apart only bit by bit, or not at all; more of them than places could make.
func TestManyStates(t *testing.T) {
	const many = 1200
	for _, k := range []struct {
		states int
		at     []int
		want   int
	}{
		{many, []int{0}, many},
		{many, []int{many - 1}, many},
		{many, []int{0, 1}, many},
		{many, nil, 1},
		{many, []int{0, many / 2}, many / 2},
		{many, []int{1, 1 + many/3, 1 + many/3*2}, many / 3},
		{many, []int{0, many/2 + 1}, many},
	} {
		if out := least(t, ring(k.states, k.at...)); len(out.Next) != k.want {
			t.Errorf("a ring with %v: %d states", k.at, len(out.Next))
		}
	}
	table := Lexed("A : '" + strings.Repeat("ab", 2000) + "' ; B : 'c' ;")
	if out := least(t, table); len(out.Next) != 4002 || out.Ends[4001] != 0 {
		t.Errorf("%d states", len(out.Next))
	}
	table = Lexed("A : '" + strings.Repeat("ab", 1000) + "' ; B : [a-z]+ ;")
	if out := least(t, table); len(out.Next) != 2002 || len(out.Ranges) != 3 {
		t.Errorf("%d states, %d ranges", len(out.Next), len(out.Ranges))
	}
	table = subsets.Table{}
	for state := range 5 * api.MaxStates {
		table.Next, table.Ends = append(table.Next, nil), append(table.Ends, state)
	}
	told(t, table, ": !0")
	table = ring(5*api.MaxStates, 0)
	table.Next[2][0], table.Next[5][0] = 0, 5 // most are found from nowhere
	told(t, table, "a: a>1 !0; a>2 !1; a>0 !1")
}

// P10.1: as many states that nothing but where they lead tells apart: a tree by a and b, with other things at all of its leaves.
func TestTree(t *testing.T) {
	for _, inner := range []int{1<<9 - 1, 1<<17 - 1} {
		table := subsets.Table{Ranges: Set('a', 'a', 'b', 'b').Set, Class: []int{0, 1}}
		for state := range inner {
			table.Next, table.Ends = append(table.Next, []int{2*state + 1, 2*state + 2}), append(table.Ends, -1)
		}
		for leaf := range inner + 1 {
			table.Next, table.Ends = append(table.Next, []int{-1, -1}), append(table.Ends, leaf)
		}
		if out := least(t, table); !reflect.DeepEqual(out, table) {
			t.Errorf("of %d states there are %d", len(table.Next), len(out.Next))
		}
		for leaf := range inner + 1 {
			table.Ends[inner+leaf] %= (inner + 1) / 2
		}
		if out := least(t, table); len(out.Next) != inner+1 {
			t.Errorf("of %d states there are %d", len(table.Next), len(out.Next))
		}
	}
}

// P10.1: many ranges, and as many columns.
func TestManyRanges(t *testing.T) {
	const many = 100000
	table := subsets.Table{Next: [][]int{nil, nil, nil}, Ends: []int{-1, 0, 1}}
	for i := range rune(many) {
		table.Ranges, table.Class = append(table.Ranges, api.Range{Low: 3 * i, High: 3*i + 1}), append(table.Class, many-1-int(i))
		table.Next[0] = append(table.Next[0], 1+int(i)%2)
		for state := 1; state < 3; state++ {
			table.Next[state] = append(table.Next[state], -1)
		}
	}
	out := least(t, table)
	if len(out.Ranges) != many || len(out.Next[0]) != 2 || out.Ends[1] != 1 || out.Step(0, 0) != 1 || out.Step(0, 3) != 2 || out.Step(0, 2) != -1 || out.Class[many-1] != 1 {
		t.Errorf("%d ranges, %d columns", len(out.Ranges), len(out.Next[0]))
	}
	for i := range table.Ranges {
		table.Ranges[i].High++
	}
	table.Ends[2] = 0
	told(t, table, "0-299999: 0-299999>1; !0")
}

// P10.1, P10.2: of what may not be there is no least one, and nothing is alike, not even itself.
func TestWrong(t *testing.T) {
	fine := Table("a: a>0 !0")
	for i, table := range Wrong() {
		if out, e := mins.Least(table); e != api.ErrArg || !reflect.DeepEqual(out, subsets.Table{}) {
			t.Errorf("%d: Least(%v): error %d, %v", i, table, e, out)
		}
		if mins.Alike(table, table) || mins.Alike(table, fine) || mins.Alike(fine, table) {
			t.Errorf("%d: %v is alike", i, table)
		}
	}
}

// P10.2: which do the same.
func TestAlike(t *testing.T) {
	groups := [][]string{ // those of one group are alike, those of two are not
		{":", "a: a>0", "a: a>1;", "b: ;!0", ":; !5"},
		{": !0", "a: a>1 !0;", ": !0; !1", "a b: a>1 !0; b>1"},
		{": !1", "a: !1; a>0 !0"},
		{"a: a>1; !0", "a b: a>1; !0", "a: a>1; !0; !1", "a b: a>2 b>1;; !0"},
		{"a: a>1; !1", "b a: a>1; !1"},
		{"b: b>1; !0", "a b: b>1; !0"},
		{"a: a>1; a>1 !0", "a: a>1; a>2 !0; a>1 !0", "a: a>1; a>2 !0; a>3 !0; a>2 !0"},
		{"a: a>0 !0", "a: a>1 !0; a>1 !0"},
		{"a-c: a-c>1; !0", "a b c: a>1 b>1 c>1; !0", "c a-b: a-b>1 c>1; !0", "b a,c: a>2 b>1; !0; !0"},
		{"a,c: a>1; !0", "a c: a>1 c>1; !0"},
		{"a b: a>1 b>1; a>1 !0", "b a: b>1 a>2; a>2 !0; a>1 !0"},
		{"a b: a>1 b>1; b>1 !0"},
		{"a b: a>1 b>2; !0; !1", "a b: a>2 b>1; !1; !0"},
		{"a b: a>1 b>2; !1; !0"},
		{"a: a>1; a>2; a>0 !0", "a: a>1; a>2; a>3 !0; a>4; a>5; a>0 !0"},
		{"a: a>1; a>2; a>1 !0"},
	}
	for i, group := range groups {
		for j, other := range groups {
			for _, a := range group {
				for _, b := range other {
					if ok := mins.Alike(Table(a), Table(b)); ok != (i == j) {
						t.Errorf("Alike(%s, %s): %t", a, b, ok)
					}
				}
			}
		}
	}
}

// R1, R4, R5: nothing that is handed in changes, nothing of it is kept, lists have no room behind and share no memory, and the same call answers the same, whatever became of an answer.
func TestApart(t *testing.T) {
	for _, line := range []string{"c a,e b: a>3 b>1 c>2; !0; !1; a>0 !2", "a b: a>1 b>2; a>1 b>0; !0", "a: a>0", "a-c,e: a-c>1; !0", ": !0", "a c e g i k: a>1 c>2 e>3 g>4 i>5 k>5; !0; !1; !2; !3; !4"} {
		table, was := Table(line), Table(line)
		out := least(t, table)
		want := Line(out)
		if !mins.Alike(table, table) || !reflect.DeepEqual(table, was) {
			t.Errorf("%s: what was handed in is another one", line)
		}
		lists := map[*int]bool{}
		for _, l := range append(append([][]int{table.Class, table.Ends}, table.Next...), append([][]int{out.Class, out.Ends}, out.Next...)...) {
			if len(l) > 0 && lists[unsafe.SliceData(l)] {
				t.Errorf("%s: %v has the memory of another list", line, l)
			}
			lists[unsafe.SliceData(l)] = true
		}
		for _, l := range append([][]int{out.Class, out.Ends}, out.Next...) {
			if cap(l) != len(l) {
				t.Errorf("%s: %v, room for %d", line, l, cap(l))
			}
			clear(l)
		}
		if cap(out.Ranges) != len(out.Ranges) || cap(out.Next) != len(out.Next) {
			t.Errorf("%s: %d ranges, room for %d; %d states, room for %d", line, len(out.Ranges), cap(out.Ranges), len(out.Next), cap(out.Next))
		}
		clear(out.Ranges)
		clear(out.Next)
		if !reflect.DeepEqual(table, was) {
			t.Errorf("%s: what was handed in shares memory with the answer", line)
		}
		again := least(t, table)
		clear(table.Ranges)
		for _, l := range append([][]int{table.Class, table.Ends}, table.Next...) {
			clear(l)
		}
		clear(table.Next)
		if s := Line(again); s != want {
			t.Errorf("%s: %s, then %s", line, want, s)
		}
	}
}
