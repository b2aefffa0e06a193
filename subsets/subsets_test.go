package subsets_test

import (
	"math"
	"reflect"
	"slices"
	"strconv"
	"strings"
	"testing"
	"unsafe"

	"harbinger/api"
	"harbinger/grams"
	. "harbinger/made"
	"harbinger/nfas"
	"harbinger/subsets"
)

// most is how many states times ranges there may be.
const most = 1048576

// placed are the places of a grammar's tokens.
func placed(t *testing.T, s string) nfas.Auto {
	t.Helper()
	g, fault := grams.Read("grammar G; s : ; " + s)
	a, e := nfas.Build(g)
	if fault.E != api.OK || e != api.OK {
		t.Fatalf("%.500s: fault %d, error %d", s, fault.E, e)
	}
	return a
}

// built is the table of places of which there may be one.
func built(t *testing.T, a nfas.Auto) subsets.Table {
	t.Helper()
	table, e := subsets.Of(a)
	if e != api.OK {
		t.Fatalf("Of(%.500s): error %d", text(a), e)
	}
	return table
}

// refused holds that there is an error, and nothing beside it.
func refused(t *testing.T, a nfas.Auto, want api.Errno) {
	t.Helper()
	table, e := subsets.Of(a)
	if e != want || !reflect.DeepEqual(table, subsets.Table{}) {
		t.Errorf("Of(%.500s): error %d, not %d, with %d states", text(a), e, want, len(table.Next))
	}
}

// text tells places: First; of each its Set, its Kind, with ! behind if it is Last, then > and Follow.
func text(a nfas.Auto) string {
	parts := []string{strconv.Itoa(a.Kinds) + " kinds, " + Numbers(a.First) + ":"}
	for _, p := range a.Places {
		s := ""
		for _, r := range p.Set {
			s += "[" + Span(r) + "]"
		}
		s += strconv.Itoa(p.Kind)
		if p.Last {
			s += "!"
		}
		parts = append(parts, s+">"+Numbers(p.Follow))
		if len(parts) > 50 {
			break
		}
	}
	return strings.Join(parts, " ")
}

// told holds the table of places against what is awaited.
func told(t *testing.T, a nfas.Auto, want string) {
	t.Helper()
	table := built(t, a)
	if !subsets.May(table) {
		t.Errorf("Of(%.500s): a table that may not be: %v", text(a), table)
	}
	if s := Line(table); s != want {
		t.Errorf("Of(%.500s):\n%.1000s, not\n%.1000s", text(a), s, want)
	}
}

// at is a place; a Set is handed in as pairs.
func at(set string, kind int, follow ...int) nfas.Place {
	p := nfas.Place{Kind: kind, Follow: follow}
	for l := []rune(set); len(l) > 1; l = l[2:] {
		p.Set = append(p.Set, api.Range{Low: l[0], High: l[1]})
	}
	return p
}

// last is a place that is one.
func last(set string, kind int, follow ...int) nfas.Place {
	p := at(set, kind, follow...)
	p.Last = true
	return p
}

func auto(kinds int, first []int, places ...nfas.Place) nfas.Auto {
	return nfas.Auto{Places: places, First: first, Kinds: kinds}
}

// P9.1: the chapter's example, number by number.
func TestExample(t *testing.T) {
	table := built(t, placed(t, "A : 'ab'* [x] ;"))
	want := subsets.Table{
		Ranges: Set('a', 'a', 'b', 'b', 'x', 'x').Set,
		Class:  []int{0, 1, 2},
		Next:   [][]int{{1, -1, 2}, {-1, 3, -1}, {-1, -1, -1}, {1, -1, 2}},
		Ends:   []int{-1, -1, 0, -1},
	}
	if !reflect.DeepEqual(table, want) {
		t.Error(table)
	}
	for _, k := range []struct {
		state int
		r     rune
		want  int
	}{{0, 'a', 1}, {0, 'x', 2}, {0, 'b', -1}, {1, 'b', 3}, {1, 'a', -1}, {3, 'a', 1}, {3, 'x', 2}, {2, 'x', -1}} {
		if next := table.Step(k.state, k.r); next != k.want {
			t.Errorf("%d by %c: %d, not %d", k.state, k.r, next, k.want)
		}
	}
}

// P9.1: tokens as one writes them.
func TestTexts(t *testing.T) {
	for _, k := range []struct{ text, want string }{
		{"", ":"},
		{"A : 'a' ;", "a: a>1; !0"},
		{"A : 'ab' ;", "a b: a>1; b>2; !0"},
		{"A : 'aa' ;", "a: a>1; a>2; !0"},
		{"A : 'ba' ;", "a b: b>1; a>2; !0"},
		{"A : 'ab'* [x] ;", "a b x: a>1 x>2; b>3; !0; a>1 x>2"},
		{"A : 'a'+ ;", "a: a>1; a>1 !0"},
		{"A : 'a' 'a'* ;", "a: a>1; a>2 !0; a>2 !0"}, // other places are another state, though it leads to the same
		{"A : 'a' | 'ab' | 'abc' ;", "a b c: a>1; b>2 !0; c>3 !0; !0"},
		{"A : 'a' 'b'? 'c'? ;", "a b c: a>1; b>2 c>3 !0; c>3 !0; !0"},
		{"A : ('a' | 'b')+ 'b' ;", "a b: a>1 b>2; a>1 b>3; a>1 b>3; a>1 b>3 !0"},

		{"A : [a-z] ;", "a-z: a-z>1; !0"},
		{"A : [a-cd-f] ;", "a-f: a-f>1; !0"}, // what touches is one range in one Set, and two in two
		{"A : [a-c] ; B : [d-f] ;", "a-c d-f: a-c>1 d-f>2; !0; !1"},
		{"A : [d-f] ; B : [a-c] ;", "a-c d-f: a-c>1 d-f>2; !1; !0"},
		{"A : [a-cx-z] ;", "a-c x-z: a-c>1 x-z>1; !0"}, // each range is a column, though they lead to the same
		{"A : [x-za-cb] ;", "a-c x-z: a-c>1 x-z>1; !0"},
		{"A : [a-e] 'x' ; B : [d-f] 'y' ;", "a-c d-e f x y: a-c>1 d-e>2 f>3; x>4; x>4 y>5; y>5; !0; !1"},
		{"A : [a-m] [c-z] ;", "a-b c-m n-z: a-b>1 c-m>1; c-m>2 n-z>2; !0"},
		{"A : ~[b] ;", "0-a c-55295 57344-1114111: 0-a>1 c-55295>1 57344-1114111>1; !0"},
		{"A : . ;", "0-55295 57344-1114111: 0-55295>1 57344-1114111>1; !0"},
		{"A : 'é\\n' ;", "10 233: 233>1; 10>2; !0"},

		{"A : 'if' ; B : [a-z]+ ;", "a-e f g-h i j-z: a-e>1 f>1 g-h>1 i>2 j-z>1; a-e>1 f>1 g-h>1 i>1 j-z>1 !1; a-e>1 f>3 g-h>1 i>1 j-z>1 !1; a-e>1 f>1 g-h>1 i>1 j-z>1 !0"},
		{"B : [a-z]+ ; A : 'if' ;", "a-e f g-h i j-z: a-e>1 f>1 g-h>1 i>2 j-z>1; a-e>1 f>1 g-h>1 i>1 j-z>1 !0; a-e>1 f>3 g-h>1 i>1 j-z>1 !0; a-e>1 f>1 g-h>1 i>1 j-z>1 !0"},
		{"A : 'a' ; B : 'a' ;", "a: a>1; !0"}, // the least token
		{"A : 'ab' ; B : 'a' ; C : 'ab' | 'a' ;", "a b: a>1; b>2 !1; !0"},
		{"skip S : ' '+ ; A : 'a' ;", "32 a: 32>1 a>2; 32>1 !0; !1"},
		{"A : 'a' ; skip S : 'a' | ' ' ;", "32 a: 32>1 a>2; !1; !0"},
		{"A : F 'x' | F ; fragment F : [a-b]+ ; B : 'a' ;", "a b x: a>1 b>2; a>2 b>2 x>3 !0; a>2 b>2 x>3 !0; !0"},
	} {
		told(t, placed(t, k.text), k.want)
	}
}

// P9.1: places that no grammar's text has.
func TestPlaces(t *testing.T) {
	for _, k := range []struct {
		a    nfas.Auto
		want string
	}{
		{auto(0, nil), ":"},
		{auto(-1, nil), ":"}, // there is no Kind that is not below it
		{auto(math.MaxInt, []int{}), ":"},
		{auto(1, []int{0}, last("", 0)), ":"},
		{auto(1, nil, last("aa", 0)), "a:"}, // what no place leads to has its ranges

		{auto(1, []int{0}, last("aa", 0, 0)), "a: a>1; a>1 !0"}, // the beginning is a state of its own, though the same is ahead
		{auto(1, []int{0, 1}, at("aa", 0, 0, 1), last("bb", 0, 0, 1)), "a b: a>1 b>2; a>1 b>2; a>1 b>2 !0"},
		{auto(1, []int{0}, at("aa", 0, 1), last("bb", 0, 0)), "a b: a>1; b>2; a>1 !0"},
		{auto(2, []int{1}, last("aa", 0, 1), last("aa", 1, 0)), "a: a>1; a>2 !1; a>1 !0"},
		{auto(1, nil, last("aa", 0, 0)), "a:"},
		{auto(3, []int{0, 1, 2}, last("ac", 2), last("bd", 1), last("ce", 0)), "a b c d e: a>1 b>2 c>3 d>4 e>5; !2; !1; !0; !0; !0"},
		{auto(9, []int{0, 1}, last("aa", 8), last("aa", 7)), "a: a>1; !7"},
		{auto(9, []int{0, 1}, last("aa", 8), at("aa", 7)), "a: a>1; !8"}, // the least of those that are Last
		{auto(math.MaxInt, []int{0}, last("aa", math.MaxInt-1)), "a: a>1; !" + strconv.Itoa(math.MaxInt-1)},
		{auto(2, []int{0}, at("aa", 0, 1), last("aa", 1)), "a: a>1; a>2; !1"}, // that follow one of another token

		{auto(1, []int{0}, last("ba", 0)), ":"}, // ranges that hold nothing
		{auto(1, []int{0}, last("bacc", 0)), "c: c>1; !0"},
		{auto(1, []int{0, 1}, last("acbbca", 0), at("bb", 0)), "a b c: a>1 b>2 c>1; !0; !0"},
		{auto(1, []int{0, 1}, last("abbc", 0), at("cdab", 0)), "a-c d: a-c>1 d>2; !0;"},
		{auto(1, []int{0, 1, 2}, last("aabb", 0), at("bbaa", 0), at("ab", 0)), "a-b: a-b>1; !0"},
	} {
		told(t, k.a, k.want)
	}
}

// P9.1: all numbers that a rune's type has stand for themselves.
func TestNumbers(t *testing.T) {
	a := auto(1, []int{0, 1}, last("", 0), at("", 0))
	a.Places[0].Set = Set(math.MinInt32, math.MaxInt32).Set
	a.Places[1].Set = Set(-1, 0, math.MaxInt32, math.MaxInt32, math.MinInt32, math.MinInt32, 0xd800, 0xdfff).Set
	told(t, a, "-2147483648 -2147483647--2 -1-0 1-55295 55296-57343 57344-2147483646 2147483647:"+
		" -2147483648>1 -2147483647--2>2 -1-0>1 1-55295>2 55296-57343>1 57344-2147483646>2 2147483647>1; !0; !0")
	table := built(t, a)
	for r, want := range map[rune]int{math.MinInt32: 1, math.MinInt32 + 1: 2, -2: 2, -1: 1, 0: 1, 1: 2, 0xd7ff: 2, 0xd800: 1, 0xe000: 2, math.MaxInt32 - 1: 2, math.MaxInt32: 1} {
		if next := table.Step(0, r); next != want {
			t.Errorf("0 by %d: %d, not %d", r, next, want)
		}
	}
}

// P9.1: Sets that differ in one number alone, by one bit of it.
func TestAlmostSame(t *testing.T) {
	for shift := range 31 {
		n := rune(1) << shift
		for _, sets := range [][2]api.Node{{Set(n, n), Set(0, 0)}, {Set(0, n), Set(0, 0)}, {Set(0, math.MaxInt32), Set(n, math.MaxInt32)}} {
			a := auto(2, []int{0, 1}, last("", 1), last("", 0))
			a.Places[0].Set, a.Places[1].Set = sets[0].Set, sets[1].Set
			table := built(t, a)
			for _, r := range []rune{0, n} {
				want := ending(a, holders(a, int64(r)))
				if next := table.Step(0, r); next < 0 || table.Ends[next] != want {
					t.Errorf("%s: by %d to %d, where %d should end: %v", text(a), r, next, want, table)
				}
			}
		}
	}
}

// wrongs are lists that are not of places, of which there are so many, rising, each once.
func wrongs(places int) [][]int {
	return [][]int{{-1}, {places}, {0, places}, {-1, 0}, {0, 0}, {1, 0}, {0, 1, 1}, {0, 2, 1}, {math.MinInt}, {math.MaxInt}, {math.MinInt, 0}, {0, math.MaxInt}, {1, -1}}
}

// P9.1: places that may not be, whatever else there is (R2).
func TestWrongPlaces(t *testing.T) {
	good := func() nfas.Auto {
		return auto(2, []int{0, 2}, last("aa", 0, 1), last("bb", 1, 0, 1, 2), at("cc", 0))
	}
	many := chain(api.MaxStates)
	refused(t, many, api.ErrLimit)
	wrong := func(change func(a *nfas.Auto)) {
		t.Helper()
		a := good()
		change(&a)
		refused(t, a, api.ErrArg)
		a.First = slices.DeleteFunc(slices.Clone(a.First), func(n int) bool { return n == 2 }) // whether or not any place leads there
		change(&a)
		refused(t, a, api.ErrArg)
		b := nfas.Auto{Places: slices.Concat(many.Places, many.Places), First: []int{0, 1}, Kinds: 1}
		b.Places[1].Follow = []int{1, 2}
		change(&b)
		refused(t, b, api.ErrArg)
	}
	built(t, good())
	for i := range wrongs(3) {
		wrong(func(a *nfas.Auto) { a.First = wrongs(len(a.Places))[i] })
		for p := range 3 {
			wrong(func(a *nfas.Auto) { a.Places[p].Follow = wrongs(len(a.Places))[i] })
		}
	}
	for i := range 3 {
		for _, kind := range []int{-1, math.MinInt, math.MaxInt} {
			wrong(func(a *nfas.Auto) { a.Places[i].Kind = kind })
		}
		wrong(func(a *nfas.Auto) { a.Places[i].Kind = a.Kinds })
	}
	for _, kinds := range []int{0, -1, math.MinInt} {
		wrong(func(a *nfas.Auto) { a.Kinds = kinds })
	}
	refused(t, auto(1, []int{0}), api.ErrArg)
	refused(t, auto(1, []int{-1}), api.ErrArg)
	refused(t, auto(0, nil, at("", 0)), api.ErrArg)
}

// chain is of so many places, one behind the other, at which x may stand: one state more.
func chain(places int) nfas.Auto {
	a := auto(1, []int{0})
	for i := range places {
		a.Places = append(a.Places, at("xx", 0, i+1))
	}
	a.Places[places-1].Follow, a.Places[places-1].Last = nil, true
	return a
}

// P9.1: as many states as may be, and one more.
func TestManyStates(t *testing.T) {
	const all = api.MaxStates
	table := built(t, chain(all-1))
	if len(table.Next) != all || len(table.Ends) != all || table.Ends[all-1] != 0 || table.Next[all-2][0] != all-1 || table.Next[all-1][0] != -1 {
		t.Errorf("%d states", len(table.Next))
	}
	refused(t, chain(all), api.ErrLimit)
	refused(t, chain(3*all), api.ErrLimit)

	a := chain(all - 1)
	a.Places[all-2].Follow = []int{5} // that leads back
	if table := built(t, a); len(table.Next) != all || table.Next[all-1][0] != 6 {
		t.Errorf("%d states", len(table.Next))
	}
	a.Places[all-2].Follow = []int{0, 1} // both at once were not yet there
	refused(t, a, api.ErrLimit)

	// What was ahead of the last runes: twice as many states for each of them.
	history := func(runes int) nfas.Auto {
		return placed(t, "A : [ab]* 'a' "+strings.Repeat("[ab] ", runes)+";")
	}
	if table := built(t, history(10)); len(table.Next) != 1+1<<11 {
		t.Errorf("%d states", len(table.Next))
	}
	refused(t, history(11), api.ErrLimit) // the beginning is one too many
	refused(t, history(2000), api.ErrLimit)
}

// alone adds so many places, each of another rune, that no place leads to.
func alone(a nfas.Auto, places int) nfas.Auto {
	a.Places = slices.Clone(a.Places)
	for i := range places {
		r := rune(10000 + 3*i)
		a.Places = append(a.Places, nfas.Place{Set: []api.Range{{Low: r, High: r}}})
	}
	return a
}

// spaced is a Set of so many ranges.
func spaced(many int) []api.Range {
	l := make([]api.Range, many)
	for i := range l {
		l[i] = api.Range{Low: rune(2 * i), High: rune(2 * i)}
	}
	return l
}

// P9.1: as many states times ranges as may be, and one more of both.
func TestManyRanges(t *testing.T) {
	for _, k := range []struct{ states, ranges int }{{1024, 1024}, {4096, 256}, {256, 4096}, {2, 1 << 19}, {1023, 1025}, {4095, 256}, {3, 349525}, {1000, 1048}} {
		a := alone(chain(k.states-1), k.ranges-1)
		table := built(t, a)
		if len(table.Next) != k.states || len(table.Ranges) != k.ranges {
			t.Errorf("%d states, %d ranges", len(table.Next), len(table.Ranges))
		}
		if (k.ranges+1)*k.states > most {
			refused(t, alone(chain(k.states-1), k.ranges), api.ErrLimit)
		}
		if k.ranges*(k.states+1) > most {
			refused(t, alone(chain(k.states), k.ranges-1), api.ErrLimit)
		}
	}
	table := built(t, alone(auto(1, nil), most))
	if len(table.Ranges) != most || len(table.Next) != 1 || len(table.Next[0]) != most || slices.Max(table.Next[0]) != -1 {
		t.Errorf("%d ranges", len(table.Ranges))
	}
	refused(t, alone(auto(1, nil), most+1), api.ErrLimit)
	for _, first := range [][]int{nil, {0}} {
		for _, ranges := range []int{most / 2, most/2 + 1, most, most + 1} {
			a := auto(1, first, last("", 0))
			a.Places[0].Set = spaced(ranges)
			if (len(first)+1)*ranges > most {
				refused(t, a, api.ErrLimit)
			} else if table := built(t, a); len(table.Ranges) != ranges || len(table.Next) != len(first)+1 {
				t.Errorf("%d ranges, %d states", len(table.Ranges), len(table.Next))
			}
		}
	}
}

// P9.1: more places than there may be states, all of them open at once, and all behind all.
func TestManyPlaces(t *testing.T) {
	const all = 5000
	a := auto(all, nil)
	set, every := spaced(200), make([]int, all)
	for i := range every {
		every[i] = i
	}
	a.First = every
	for i := range all {
		a.Places = append(a.Places, nfas.Place{Set: set, Kind: all - 1 - i, Last: true, Follow: every})
	}
	table := built(t, a)
	if len(table.Next) != 2 || len(table.Ranges) != len(set) || table.Ends[1] != 0 || slices.Max(table.Next[0]) != 1 || slices.Min(table.Next[1]) != 1 {
		t.Error(len(table.Next), "states:", table.Ends)
	}
	for i := range all {
		a.Places[i].Set = Set(rune(i), rune(i+all)).Set // each range is in others
		a.Places[i].Follow = nil
	}
	refused(t, a, api.ErrLimit)
	for i := range all {
		a.Places[i].Set = Set(rune(i%50), rune(i%50+50)).Set
	}
	table = built(t, a)
	if len(table.Next) != 100 || len(table.Ranges) != 99 {
		t.Errorf("%d states, %d ranges", len(table.Next), len(table.Ranges))
	}
	for r := range rune(101) { // ending at those whose place is the last of all
		end, next := -1, table.Step(0, r)
		for i, p := range a.Places {
			if p.Set[0].Low <= r && r <= p.Set[0].High {
				end = all - 1 - i
			}
		}
		if r == 100 && next != -1 || r < 100 && table.Ends[next] != end {
			t.Errorf("by %d: %d", r, next)
		}
	}
}

// P9.2: tables that may be, and some that may not.
func TestMay(t *testing.T) {
	row := func(l ...int) []int { return l }
	for _, k := range []struct {
		ranges []rune
		class  []int
		next   [][]int
		ends   []int
		want   bool
	}{
		{nil, nil, nil, nil, false}, // no state
		{nil, row(), [][]int{}, row(), false},
		{nil, nil, [][]int{nil}, row(-1), true},
		{nil, nil, [][]int{{}}, row(0), true},
		{nil, nil, [][]int{{}, nil, {}}, row(0, math.MaxInt, -1), true},
		{nil, nil, [][]int{{-1}}, row(-1), false},
		{nil, row(0), [][]int{{-1}}, row(-1), false},
		{nil, row(0), [][]int{{}}, row(-1), false},

		{[]rune{'a', 'a'}, row(0), [][]int{{-1}}, row(-1), true},
		{[]rune{'a', 'a'}, row(0), [][]int{{0}}, row(7), true},
		{[]rune{'a', 'z', 'x', 'x'}, row(0, 1), [][]int{{0, 0}}, row(-1), false}, // within
		{[]rune{'a', 'c', 'c', 'd'}, row(0, 1), [][]int{{0, 0}}, row(-1), false}, // not apart
		{[]rune{'a', 'c', 'd', 'd'}, row(0, 1), [][]int{{0, 0}}, row(-1), true},  // that touch
		{[]rune{'c', 'd', 'a', 'b'}, row(0, 1), [][]int{{0, 0}}, row(-1), false}, // falling
		{[]rune{'a', 'b', 'a', 'b'}, row(0, 1), [][]int{{0, 0}}, row(-1), false},
		{[]rune{'b', 'a'}, row(0), [][]int{{0}}, row(-1), false}, // that hold nothing
		{[]rune{'a', 'a', 'd', 'c', 'f', 'f'}, row(0, 1, 2), [][]int{{0, 0, 0}}, row(-1), false},
		{[]rune{'a', 'a', 'd', 'c', 'd', 'f'}, row(0, 1, 2), [][]int{{0, 0, 0}}, row(-1), false},
		{[]rune{math.MinInt32, -1, 0, math.MaxInt32}, row(0, 1), [][]int{{0, 0}}, row(-1), true},
		{[]rune{math.MinInt32, math.MaxInt32}, row(0), [][]int{{0}}, row(-1), true},
		{[]rune{math.MinInt32, math.MaxInt32, math.MinInt32, math.MaxInt32}, row(0, 1), [][]int{{0, 0}}, row(-1), false},

		{[]rune{'a', 'a'}, nil, [][]int{{0}}, row(-1), false}, // one for each
		{[]rune{'a', 'a'}, nil, [][]int{{}}, row(-1), false},
		{[]rune{'a', 'a'}, row(0, 0), [][]int{{0}}, row(-1), false},
		{[]rune{'a', 'a'}, row(1), [][]int{{0}}, row(-1), false}, // each column up to the greatest one
		{[]rune{'a', 'a'}, row(1), [][]int{{0, 0}}, row(-1), false},
		{[]rune{'a', 'a'}, row(-1), [][]int{{}}, row(-1), false},
		{[]rune{'a', 'a', 'c', 'c'}, row(0, -1), [][]int{{0}}, row(-1), false},
		{[]rune{'a', 'a', 'c', 'c'}, row(-1, 0), [][]int{{0}}, row(-1), false},
		{[]rune{'a', 'a', 'c', 'c'}, row(0, 0), [][]int{{0}}, row(-1), true},
		{[]rune{'a', 'a', 'c', 'c'}, row(0, 1), [][]int{{0, 0}}, row(-1), true},
		{[]rune{'a', 'a', 'c', 'c'}, row(1, 0), [][]int{{0, 0}}, row(-1), true},
		{[]rune{'a', 'a', 'c', 'c'}, row(1, 1), [][]int{{0, 0}}, row(-1), false},
		{[]rune{'a', 'a', 'c', 'c'}, row(1, 1), [][]int{{0}}, row(-1), false},
		{[]rune{'a', 'a', 'c', 'c'}, row(0, 2), [][]int{{0, 0, 0}}, row(-1), false},
		{[]rune{'a', 'a', 'c', 'c'}, row(0, 2), [][]int{{0, 0}}, row(-1), false},
		{[]rune{'a', 'a', 'c', 'c'}, row(0, math.MaxInt), [][]int{{0, 0}}, row(-1), false},
		{[]rune{'a', 'a', 'c', 'c'}, row(0, math.MinInt), [][]int{{0, 0}}, row(-1), false},
		{[]rune{'a', 'a', 'c', 'c', 'e', 'e'}, row(2, 0, 2), [][]int{{0, 0, 0}}, row(-1), false},
		{[]rune{'a', 'a', 'c', 'c', 'e', 'e'}, row(2, 0, 1), [][]int{{0, 0, 0}}, row(-1), true},
		{[]rune{'a', 'a', 'c', 'c', 'e', 'e'}, row(1, 0, 1), [][]int{{0, 0}}, row(-1), true},

		{[]rune{'a', 'a'}, row(0), [][]int{{0}, {1}}, row(-1), false}, // of each state
		{[]rune{'a', 'a'}, row(0), [][]int{{0}}, row(-1, 0), false},
		{[]rune{'a', 'a'}, row(0), [][]int{{0}}, nil, false},
		{[]rune{'a', 'a'}, row(0), nil, row(0), false},
		{[]rune{'a', 'a'}, row(0), nil, nil, false},
		{[]rune{'a', 'a'}, row(0), [][]int{{0}, {}}, row(-1, 0), false}, // one for each column
		{[]rune{'a', 'a'}, row(0), [][]int{{0}, nil}, row(-1, 0), false},
		{[]rune{'a', 'a'}, row(0), [][]int{{0, 0}, {0}}, row(-1, 0), false},
		{[]rune{'a', 'a', 'c', 'c'}, row(0, 0), [][]int{{0, 0}}, row(-1), false},
		{[]rune{'a', 'a'}, row(0), [][]int{{1}, {-1}}, row(-1, 0), true},
		{[]rune{'a', 'a'}, row(0), [][]int{{1}, {2}}, row(-1, 0), false}, // no such state
		{[]rune{'a', 'a'}, row(0), [][]int{{1}, {-2}}, row(-1, 0), false},
		{[]rune{'a', 'a'}, row(0), [][]int{{math.MaxInt}, {0}}, row(-1, 0), false},
		{[]rune{'a', 'a'}, row(0), [][]int{{math.MinInt}, {0}}, row(-1, 0), false},
		{[]rune{'a', 'a'}, row(0), [][]int{{1}, {0}}, row(-2, 0), false}, // what ends
		{[]rune{'a', 'a'}, row(0), [][]int{{1}, {0}}, row(0, math.MinInt), false},
		{[]rune{'a', 'a'}, row(0), [][]int{{1}, {0}}, row(math.MaxInt, 0), true},
	} {
		table := subsets.Table{Ranges: Set(k.ranges...).Set, Class: k.class, Next: k.next, Ends: k.ends}
		if ok := subsets.May(table); ok != k.want {
			t.Errorf("May(%v): %t", table, ok)
		}
	}
	if !subsets.May(built(t, chain(9))) {
		t.Error("a table that was made may not be")
	}
	big := subsets.Table{Next: make([][]int, 3*api.MaxStates), Ends: make([]int, 3*api.MaxStates)} // no limit is told
	if !subsets.May(big) {
		t.Error("many states may not be")
	}
}

// P9.2: steps, also of tables that may not be.
func TestStep(t *testing.T) {
	fine := subsets.Table{
		Ranges: Set('a', 'c', 'd', 'd', 'x', 'z').Set,
		Class:  []int{1, 0, 1},
		Next:   [][]int{{1, 2}, {-1, 0}, {2, -1}},
		Ends:   []int{0, -1, 5},
	}
	odd := subsets.Table{
		Ranges: Set('x', 'z', 'b', 'a', 'a', 'f', 'c', 'c', 'm', 'm', 'n', 'n', 'o', 'o', 'p', 'p', 'q', 'q', 'c', 'y').Set,
		Class:  []int{0, 1, 2, 1, -1, 3, math.MaxInt, math.MinInt},
		Next:   [][]int{{7, 8, 9}, {-5}, nil, {math.MaxInt, -1, math.MinInt, 1}},
	}
	for _, k := range []struct {
		t     subsets.Table
		state int
		runes string
		want  string // of each rune
	}{
		{fine, 0, "abcdewxyz{", "2 2 2 1 -1 -1 2 2 2 -1"},
		{fine, 1, "abcdewxyz{", "0 0 0 -1 -1 -1 0 0 0 -1"},
		{fine, 2, "abcdewxyz{", "-1 -1 -1 2 -1 -1 -1 -1 -1 -1"},
		{fine, 3, "abcdewxyz{", "-1 -1 -1 -1 -1 -1 -1 -1 -1 -1"},
		{fine, -1, "ad", "-1 -1"},
		{fine, math.MinInt, "ad", "-1 -1"},
		{fine, math.MaxInt, "ad", "-1 -1"},

		{odd, 0, "xabcf", "7 9 9 9 9"}, // of several ranges the first one; one that holds nothing has none
		{odd, 1, "xac", "-5 -1 -1"},    // no such column in this row
		{odd, 2, "xac", "-1 -1 -1"},
		{odd, 3, "xac", strconv.Itoa(math.MaxInt) + " " + strconv.Itoa(math.MinInt) + " " + strconv.Itoa(math.MinInt)}, // what Next has
		{odd, 3, "mnop", "-1 1 -1 -1"},             // no such column at all
		{odd, 0, "mnopqgy", "-1 -1 -1 -1 -1 -1 7"}, // ranges without a column
		{subsets.Table{}, 0, "a", "-1"},
		{subsets.Table{Ranges: Set('a', 'a').Set}, 0, "a", "-1"},
		{subsets.Table{Ranges: Set('a', 'a').Set, Class: []int{0}}, 0, "a", "-1"},
		{subsets.Table{Ranges: Set('a', 'a').Set, Next: [][]int{{0}}}, 0, "a", "-1"},
		{subsets.Table{Class: []int{0}, Next: [][]int{{0}}}, 0, "a", "-1"},
		{subsets.Table{Ranges: Set('a', 'a').Set, Class: []int{0}, Next: [][]int{{3}}}, 0, "ab", "3 -1"},
	} {
		var parts []string
		for _, r := range k.runes {
			parts = append(parts, strconv.Itoa(k.t.Step(k.state, r)))
		}
		if s := strings.Join(parts, " "); s != k.want {
			t.Errorf("%v: %d by %s: %s, not %s", k.t, k.state, k.runes, s, k.want)
		}
	}
}

// R1, R4, R5: nothing that is handed in changes, nothing of it is kept, lists have no room behind and share no memory, and the same call answers the same, whatever became of an answer.
func TestApart(t *testing.T) {
	source := "A : F [a-cx-z] (F | 'b')* ; fragment F : [0-9] 'é'? ; skip S : [ \\n]+ ; B : ~[a-z0] | 'abcd' [a-cABCD]? ;"
	a, was := placed(t, source), placed(t, source)
	table := built(t, a)
	if !reflect.DeepEqual(a, was) {
		t.Error("what was handed in is another one")
	}
	want := Line(table)
	lists := map[*int]bool{}
	for i, l := range append([][]int{a.First, table.Class, table.Ends}, table.Next...) {
		if i > 0 && cap(l) != len(l) || lists[unsafe.SliceData(l)] {
			t.Errorf("list %d: %v, room for %d", i, l, cap(l))
		}
		lists[unsafe.SliceData(l)] = true
	}
	if cap(table.Ranges) != len(table.Ranges) || cap(table.Next) != len(table.Next) {
		t.Errorf("%d ranges, room for %d; %d states, room for %d", len(table.Ranges), cap(table.Ranges), len(table.Next), cap(table.Next))
	}
	for _, p := range a.Places {
		if unsafe.SliceData(p.Set) == unsafe.SliceData(table.Ranges) {
			t.Error("a Set is the ranges")
		}
	}
	asked := Copied(table)
	if !subsets.May(asked) || asked.Step(0, 'a') != table.Step(0, 'a') || !reflect.DeepEqual(asked, table) {
		t.Error("what was asked is another one")
	}
	for _, row := range append(table.Next, table.Class, table.Ends) {
		clear(row)
	}
	clear(table.Ranges)
	clear(table.Next)
	if !reflect.DeepEqual(a, was) {
		t.Error("what was handed in shares memory with the answer")
	}
	if again := built(t, a); Line(again) != want {
		t.Error("another answer of the same:", Line(again))
	}
	again := built(t, a)
	for _, p := range a.Places {
		clear(p.Set)
		clear(p.Follow)
	}
	clear(a.First)
	clear(a.Places)
	if Line(again) != want {
		t.Error("what was handed in is kept:", Line(again))
	}
}

// P9.1, R4: a Set that is the ranges already, or that several places have.
func TestSharedSet(t *testing.T) {
	a := auto(1, []int{0, 1}, last("aa", 0), last("aa", 0))
	a.Places[1].Set = a.Places[0].Set
	table := built(t, a)
	table.Ranges[0] = api.Range{}
	if a.Places[0].Set[0].Low != 'a' {
		t.Error("what was handed in is another one")
	}
	told(t, a, "a: a>1; !0")
}
