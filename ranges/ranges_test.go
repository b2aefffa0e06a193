package ranges_test

import (
	"fmt"
	"math"
	"slices"
	"testing"

	"harbinger/api"
	. "harbinger/made"
	"harbinger/ranges"
)

const (
	least    = math.MinInt32
	greatest = math.MaxInt32
)

// list is of pairs: where a range begins, and where it ends.
func list(ends ...rune) []api.Range {
	return Set(ends...).Set
}

// told holds a list against what is awaited; of none it makes no difference whether there is a list.
func told(t *testing.T, got, want []api.Range, call string, ls ...[]api.Range) {
	t.Helper()
	if !slices.Equal(got, want) {
		t.Errorf("%s(%s): %s, not %s", call, short(ls), short(got), short(want))
	}
	if cap(got) != len(got) {
		t.Errorf("%s(%s): %d ranges, room for %d", call, short(ls), len(got), cap(got))
	}
}

// short is the beginning of what would be told.
func short(x any) string {
	return fmt.Sprintf("%.500s", fmt.Sprint(x))
}

// P7.1, P7.3: the chapter's examples.
func TestExamples(t *testing.T) {
	told(t, ranges.Neat(list(5, 7, 1, 2, 3, 3, 9, 8)), list(1, 3, 5, 7), "Neat")
	told(t, ranges.Minus(list(1, 9), list(3, 4)), list(1, 2, 5, 9), "Minus")
	told(t, ranges.Split(list(1, 5), list(4, 9)), list(1, 3, 4, 5, 6, 9), "Split")
	told(t, ranges.Split(list(1, 2, 3, 4)), list(1, 4), "Split")
}

// P7.1, P7.3: of one list all that is told but Minus is the neat one.
func TestNeat(t *testing.T) {
	for _, k := range []struct{ l, want []api.Range }{
		{nil, nil},
		{[]api.Range{}, nil},
		{list(0, 0), list(0, 0)},
		{list(4, 9), list(4, 9)},
		{list(9, 4), nil},
		{list(1, 0), nil}, // just below
		{list(9, 4, 5, 5, 1, 0), list(5, 5)},
		{list(6, 5, 1, 5), list(1, 5)},             // what holds nothing takes nothing away
		{list(1, 2, 3, 4), list(1, 4)},             // nothing between
		{list(3, 4, 1, 2), list(1, 4)},             // in whatever order
		{list(1, 2, 4, 5), list(1, 2, 4, 5)},       // a number between
		{list(4, 5, 1, 2), list(1, 2, 4, 5)},       // likewise
		{list(1, 2, 4, 5, 3, 3), list(1, 5)},       // that is held in the end
		{list(1, 5, 2, 3), list(1, 5)},             // one within another one
		{list(2, 3, 1, 5), list(1, 5)},             // likewise
		{list(1, 5, 2, 3, 7, 8), list(1, 5, 7, 8)}, // behind which the greater one goes on
		{list(1, 9, 2, 3, 5, 6, 11, 12), list(1, 9, 11, 12)},
		{list(1, 5, 3, 8), list(1, 8)},
		{list(3, 8, 1, 5), list(1, 8)},
		{list(1, 5, 1, 7), list(1, 7)},
		{list(1, 7, 5, 7), list(1, 7)},
		{list(2, 4, 2, 4, 2, 4), list(2, 4)},
		{list(2, 2, 2, 2, 4, 4, 4, 4), list(2, 2, 4, 4)},
		{list(1, 2, 2, 3, 3, 4, 4, 5), list(1, 5)},
		{list(7, 7, 5, 5, 3, 3, 1, 1), list(1, 1, 3, 3, 5, 5, 7, 7)},
		{list(7, 7, 5, 5, 6, 6), list(5, 7)},
		{list(-3, -1, 1, 3), list(-3, -1, 1, 3)}, // a number is one, whether or not a rune is it
		{list(1, 3, -3, 0), list(-3, 3)},
		{list(0, 55295, 57344, 1114111), list(0, 55295, 57344, 1114111)}, // those between are no rune's, but numbers
		{list(57344, 1114111, 0, 55295, 55296, 57343), list(0, 1114111)},
		{list(1114112, 2000000, 5, 1114111), list(5, 2000000)},
		{list(greatest, greatest), list(greatest, greatest)},
		{list(least, least), list(least, least)},
		{list(least, greatest), list(least, greatest)},
		{list(greatest, least), nil},
		{list(0, least), nil},
		{list(greatest, 0, 3, 3), list(3, 3)},
		{list(greatest, greatest, least, least), list(least, least, greatest, greatest)}, // no number stands behind the one and ahead of the other
		{list(greatest-1, greatest-1, greatest, greatest), list(greatest-1, greatest)},
		{list(0, greatest, 5, greatest), list(0, greatest)},
		{list(0, greatest, least, -1), list(least, greatest)},
		{list(1, greatest, least, -1), list(least, -1, 1, greatest)},
		{list(5, greatest, least, 5), list(least, greatest)},
	} {
		told(t, ranges.Neat(k.l), k.want, "Neat", k.l)
		told(t, ranges.Union(k.l), k.want, "Union", k.l)
		told(t, ranges.Union(k.l, k.l, nil), k.want, "Union", k.l, k.l, nil)
		told(t, ranges.Both(k.l, k.l), k.want, "Both", k.l, k.l)
		told(t, ranges.Both(k.l, list(least, greatest)), k.want, "Both", k.l, list(least, greatest))
		told(t, ranges.Both(k.l, nil), nil, "Both", k.l, nil)
		told(t, ranges.Both(nil, k.l), nil, "Both", nil, k.l)
		told(t, ranges.Minus(k.l, nil), k.want, "Minus", k.l, nil)
		told(t, ranges.Minus(k.l, k.l), nil, "Minus", k.l, k.l)
		told(t, ranges.Minus(nil, k.l), nil, "Minus", nil, k.l)
		told(t, ranges.Split(k.l), k.want, "Split", k.l)
		told(t, ranges.Split(nil, k.l, k.l, nil), k.want, "Split", nil, k.l, k.l, nil)
		told(t, ranges.Neat(k.want), k.want, "Neat", k.want)
	}
}

// P7.1
func TestUnion(t *testing.T) {
	for _, k := range []struct {
		ls   [][]api.Range
		want []api.Range
	}{
		{nil, nil},
		{[][]api.Range{}, nil},
		{[][]api.Range{nil, {}, nil}, nil},
		{[][]api.Range{list(3, 1), list(9, 8)}, nil},
		{[][]api.Range{list(1, 2), list(3, 4)}, list(1, 4)},
		{[][]api.Range{list(3, 4), nil, list(1, 2)}, list(1, 4)},
		{[][]api.Range{list(1, 2), list(4, 5)}, list(1, 2, 4, 5)},
		{[][]api.Range{list(1, 2, 7, 8), list(4, 5, 10, 11)}, list(1, 2, 4, 5, 7, 8, 10, 11)},
		{[][]api.Range{list(1, 2, 7, 8), list(3, 6)}, list(1, 8)},
		{[][]api.Range{list(1, 9), list(3, 4), list(6, 7)}, list(1, 9)},
		{[][]api.Range{list(1, 1), list(2, 2), list(3, 3), list(4, 4), list(6, 6)}, list(1, 4, 6, 6)},
		{[][]api.Range{list(9, 9, 1, 1), list(5, 5), list(3, 3, 7, 7)}, list(1, 1, 3, 3, 5, 5, 7, 7, 9, 9)},
		{[][]api.Range{list(least, -1), list(0, greatest)}, list(least, greatest)},
		{[][]api.Range{list(greatest, greatest), list(least, least)}, list(least, least, greatest, greatest)},
	} {
		told(t, ranges.Union(k.ls...), k.want, "Union", k.ls...)
	}
}

// P7.1
func TestMinusAndBoth(t *testing.T) {
	all := list(least, greatest)
	for _, k := range []struct{ a, b, minus, both []api.Range }{
		{list(1, 9), list(3, 4), list(1, 2, 5, 9), list(3, 4)},
		{list(3, 4), list(1, 9), nil, list(3, 4)},
		{list(1, 9), list(1, 9), nil, list(1, 9)},
		{list(1, 9), list(1, 4), list(5, 9), list(1, 4)},
		{list(1, 9), list(5, 9), list(1, 4), list(5, 9)},
		{list(1, 9), list(0, 1), list(2, 9), list(1, 1)},
		{list(1, 9), list(9, 10), list(1, 8), list(9, 9)},
		{list(1, 9), list(10, 12), list(1, 9), nil},
		{list(1, 9), list(-3, 0), list(1, 9), nil},
		{list(1, 9), list(5, 4), list(1, 9), nil},
		{list(1, 9), list(2, 2, 4, 4, 6, 6, 8, 8), list(1, 1, 3, 3, 5, 5, 7, 7, 9, 9), list(2, 2, 4, 4, 6, 6, 8, 8)},
		{list(2, 2, 4, 4, 6, 6, 8, 8), list(1, 9), nil, list(2, 2, 4, 4, 6, 6, 8, 8)},
		{list(1, 3, 5, 7, 9, 11), list(3, 5, 7, 9), list(1, 2, 6, 6, 10, 11), list(3, 3, 5, 5, 7, 7, 9, 9)},
		{list(1, 2, 3, 4), list(2, 3), list(1, 1, 4, 4), list(2, 3)},       // what touches is one
		{list(1, 4), list(3, 3, 2, 2), list(1, 1, 4, 4), list(2, 3)},       // likewise
		{list(1, 4, 2, 6), list(3, 4), list(1, 2, 5, 6), list(3, 4)},       // what is held twice is held
		{list(1, 9), list(3, 4, 3, 4), list(1, 2, 5, 9), list(3, 4)},       // likewise
		{list(1, 9), list(3, 6, 4, 5), list(1, 2, 7, 9), list(3, 6)},       // likewise
		{list(1, 4, 1, 4, 1, 4), list(3, 8, 2, 3), list(1, 1), list(2, 4)}, // likewise
		{list(5, 9, 1, 3), list(6, 6, 2, 2), list(1, 1, 3, 3, 5, 5, 7, 9), list(2, 2, 6, 6)},
		{list(8, 8, 5, 5), list(5, 5), list(8, 8), list(5, 5)},
		{all, list(5, 5), list(least, 4, 6, greatest), list(5, 5)},
		{all, list(greatest, greatest), list(least, greatest-1), list(greatest, greatest)},
		{all, list(least, least), list(least+1, greatest), list(least, least)},
		{list(5, 5), all, nil, list(5, 5)},
		{list(0, 1114111), list(55296, 57343), list(0, 55295, 57344, 1114111), list(55296, 57343)},
		{list(-9, 9), list(-1, 1), list(-9, -2, 2, 9), list(-1, 1)},
	} {
		told(t, ranges.Minus(k.a, k.b), k.minus, "Minus", k.a, k.b)
		told(t, ranges.Both(k.a, k.b), k.both, "Both", k.a, k.b)
		told(t, ranges.Both(k.b, k.a), k.both, "Both", k.b, k.a)
	}
}

// P7.2, P7.4: lists of whatever order, with ranges that hold nothing, or the same as others.
func TestHasAndClass(t *testing.T) {
	for _, k := range []struct {
		l     []api.Range
		r     rune
		class int
	}{
		{nil, 0, -1},
		{[]api.Range{}, 5, -1},
		{list(0, 0), 0, 0},
		{list(0, 0), 1, -1},
		{list(0, 0), -1, -1},
		{list(3, 5), 2, -1},
		{list(3, 5), 3, 0},
		{list(3, 5), 4, 0},
		{list(3, 5), 5, 0},
		{list(3, 5), 6, -1},
		{list(5, 3), 4, -1},
		{list(5, 3), 5, -1},
		{list(5, 3), 3, -1},
		{list(5, 3, 4, 4), 4, 1},
		{list(1, 2, 4, 5, 7, 8), 1, 0},
		{list(1, 2, 4, 5, 7, 8), 3, -1},
		{list(1, 2, 4, 5, 7, 8), 4, 1},
		{list(1, 2, 4, 5, 7, 8), 6, -1},
		{list(1, 2, 4, 5, 7, 8), 8, 2},
		{list(1, 2, 4, 5, 7, 8), 9, -1},
		{list(7, 8, 4, 5, 1, 2), 2, 2},
		{list(7, 8, 4, 5, 1, 2), 8, 0},
		{list(1, 9, 2, 3, 5, 5), 5, 0}, // the first one of several
		{list(5, 5, 2, 3, 1, 9), 5, 0},
		{list(5, 5, 2, 3, 1, 9), 3, 1},
		{list(5, 5, 2, 3, 1, 9), 4, 2},
		{list(4, 4, 4, 4), 4, 0},
		{list(-5, -3, 0, 3), -3, 0},
		{list(-5, -3, 0, 3), -2, -1},
		{list(-5, -3, 0, 3), 2, 1},
		{list(0, 55295, 57344, 1114111), 55296, -1},
		{list(0, 1114111), 55296, 0}, // a range holds it, though no rune is it
		{list(0, 1114111), 1114111, 0},
		{list(0, 1114111), 1114112, -1},
		{list(least, greatest), least, 0},
		{list(least, greatest), greatest, 0},
		{list(greatest, greatest), greatest, 0},
		{list(greatest, greatest), greatest - 1, -1},
		{list(greatest, greatest), least, -1},
		{list(least, least), least, 0},
		{list(least, least), greatest, -1},
		{list(greatest, least), 0, -1},
	} {
		if i := ranges.Class(k.l, k.r); i != k.class {
			t.Errorf("Class(%v, %d): %d, not %d", k.l, k.r, i, k.class)
		}
		if ranges.Has(k.l, k.r) != (k.class >= 0) {
			t.Errorf("Has(%v, %d): %t", k.l, k.r, k.class < 0)
		}
	}
}

// P7.3
func TestSplit(t *testing.T) {
	for _, k := range []struct {
		ls   [][]api.Range
		want []api.Range
	}{
		{nil, nil},
		{[][]api.Range{}, nil},
		{[][]api.Range{nil, {}}, nil},
		{[][]api.Range{list(3, 1), list(9, 8)}, nil},
		{[][]api.Range{list(1, 2), list(3, 4)}, list(1, 2, 3, 4)}, // what touches is apart, as no list holds both
		{[][]api.Range{list(3, 4), list(1, 2)}, list(1, 2, 3, 4)},
		{[][]api.Range{list(1, 2, 3, 4), list(1, 2), list(3, 4)}, list(1, 2, 3, 4)},
		{[][]api.Range{list(1, 2, 3, 4), list(1, 4)}, list(1, 4)}, // all lists hold both
		{[][]api.Range{list(1, 2, 3, 4), list(3, 4, 1, 2), list(2, 3, 4, 4, 1, 1)}, list(1, 4)},
		{[][]api.Range{list(1, 2, 2, 3), list(7, 8)}, list(1, 3, 7, 8)}, // how often a list holds it makes no difference
		{[][]api.Range{list(1, 5, 2, 3)}, list(1, 5)},
		{[][]api.Range{list(1, 5, 2, 3), list(5, 5)}, list(1, 4, 5, 5)},
		{[][]api.Range{list(1, 2), list(4, 5)}, list(1, 2, 4, 5)},
		{[][]api.Range{list(1, 9), list(5, 5)}, list(1, 4, 5, 5, 6, 9)},
		{[][]api.Range{list(1, 9), list(1, 1)}, list(1, 1, 2, 9)},
		{[][]api.Range{list(1, 9), list(9, 9)}, list(1, 8, 9, 9)},
		{[][]api.Range{list(1, 9), list(1, 9)}, list(1, 9)},
		{[][]api.Range{list(1, 9), list(0, 12)}, list(0, 0, 1, 9, 10, 12)},
		{[][]api.Range{list(1, 9), list(2, 8), list(3, 7), list(5, 5)}, list(1, 1, 2, 2, 3, 4, 5, 5, 6, 7, 8, 8, 9, 9)},
		{[][]api.Range{list(1, 4), list(3, 6), list(5, 8)}, list(1, 2, 3, 4, 5, 6, 7, 8)},
		{[][]api.Range{list(1, 4), list(5, 8), list(1, 4), list(5, 8)}, list(1, 4, 5, 8)}, // as many hold the one as the other
		{[][]api.Range{list(1, 4, 9, 9), list(5, 9), list(5, 8), list(1, 4, 9, 9)}, list(1, 4, 5, 8, 9, 9)},
		{[][]api.Range{list(1, 1), list(2, 2), list(2, 2), list(1, 1)}, list(1, 1, 2, 2)},
		{[][]api.Range{nil, list(1, 1), list(2, 2), list(3, 3, 4, 4), list(2, 2)}, list(1, 1, 2, 2, 3, 4)},
		{[][]api.Range{list('a', 'z'), list('a', 'z', 'A', 'Z', '0', '9', '_', '_'), list('0', '9')}, list('0', '9', 'A', 'Z', '_', '_', 'a', 'z')},
		{[][]api.Range{list(least, greatest), list(5, 5)}, list(least, 4, 5, 5, 6, greatest)},
		{[][]api.Range{list(least, greatest), list(greatest, greatest, least, least)}, list(least, least, least+1, greatest-1, greatest, greatest)},
		{[][]api.Range{list(0, greatest), list(least, -1)}, list(least, -1, 0, greatest)},
		{[][]api.Range{list(0, 55295, 57344, 1114111), list(0, 1114111)}, list(0, 55295, 55296, 57343, 57344, 1114111)},
	} {
		told(t, ranges.Split(k.ls...), k.want, "Split", k.ls...)
	}
}

// P7.1, P7.3: of many lists each counts.
func TestManyLists(t *testing.T) {
	const many = 5000
	var nested, single [][]api.Range // one within the other; one behind the other
	var left, right, apart []api.Range
	for i := range rune(many) {
		nested = append(nested, list(i, 2*many-i))
		left = append(left, list(i, i)...)
		right = append(right, list(many+1+i, many+1+i)...)
		single = append(single, list(3*i, 3*i, 3*i+1, 3*i+1))
		apart = append(apart, list(3*i, 3*i+1)...)
	}
	inner := list(many-1, many+1) // that is what the last list holds
	told(t, ranges.Union(nested...), list(0, 2*many), "Union")
	told(t, ranges.Split(nested...), slices.Concat(left[:many-1], inner, right[1:]), "Split")
	told(t, ranges.Union(single...), apart, "Union")
	told(t, ranges.Split(single...), apart, "Split")
	for _, at := range []int{1, 31, 32, 63, 64, 65, 127, 128, 255, 256, many - 1} { // what touches is held by two lists that are so far from one another
		ls := make([][]api.Range, at+1)
		ls[0], ls[at] = list(1, 2), list(3, 4)
		told(t, ranges.Split(ls...), list(1, 2, 3, 4), "Split")
		ls[0] = list(1, 4)
		told(t, ranges.Split(ls...), list(1, 2, 3, 4), "Split")
		told(t, ranges.Union(ls...), list(1, 4), "Union")
		ls[at] = list(1, 2, 3, 4)
		told(t, ranges.Split(ls...), list(1, 4), "Split")
	}
}

// P7.1 to P7.4: of a long list, from behind to the front, each range counts.
func TestLongLists(t *testing.T) {
	const long = 200000
	var l, rising, between []api.Range
	for i := range rune(long) {
		l = append(l, list(4*(long-1-i)+2, 4*(long-1-i)+2, 4*(long-1-i)+1, 4*(long-1-i))...)
		rising = append(rising, list(4*i+2, 4*i+2)...)
		between = append(between, list(4*i+3, 4*i+5)...)
	}
	between = between[:long-1]
	whole := list(2, 4*long-2)
	told(t, ranges.Neat(l), rising, "Neat")
	told(t, ranges.Union(between, l), whole, "Union")
	told(t, ranges.Minus(whole, l), between, "Minus")
	told(t, ranges.Both(whole, l), rising, "Both")
	told(t, ranges.Both(between, l), nil, "Both")
	if s := ranges.Split(l, whole); len(s) != 2*long-1 || s[0] != rising[0] || s[1] != between[0] || s[2*long-2] != rising[long-1] {
		t.Errorf("Split: %d ranges", len(s))
	}
	if i := ranges.Class(l, 2); i != 2*long-2 || !ranges.Has(l, 2) || ranges.Has(l, 4) || ranges.Class(l, 4) != -1 {
		t.Error("Class:", i)
	}
}

// calls are those that answer lists, each of two lists, or of the first of them alone.
func calls() map[string]func(a, b []api.Range) []api.Range {
	return map[string]func(a, b []api.Range) []api.Range{
		"Neat":         func(a, b []api.Range) []api.Range { return ranges.Neat(a) },
		"Union":        func(a, b []api.Range) []api.Range { return ranges.Union(a, b) },
		"Union of one": func(a, b []api.Range) []api.Range { return ranges.Union(a) },
		"Minus":        ranges.Minus,
		"Both":         ranges.Both,
		"Split":        func(a, b []api.Range) []api.Range { return ranges.Split(a, b) },
		"Split of one": func(a, b []api.Range) []api.Range { return ranges.Split(a) },
	}
}

// roomy is a list with something in the room behind it.
func roomy(l []api.Range) []api.Range {
	return append(slices.Clone(l), list(7, 7, 0, 99)...)[:len(l)]
}

// R1, R4, R5: nothing that is handed in changes, not even behind it, or is kept; what is answered shares memory with nothing; the same call answers the same, whatever became of an answer.
func TestApart(t *testing.T) {
	pairs := [][2][]api.Range{
		{list(1, 3, 5, 7), nil},
		{list(1, 3, 5, 7), list(1, 3, 5, 7)},
		{list(1, 3, 5, 7), list(0, 9)},
		{list(0, 9), list(3, 4)},
		{list(9, 9, 5, 3, 7, 8, 2, 4, 1, 1), list(8, 6, 8, 8, 3, 3)},
		{list(5, 5), list(7, 7, 6, 6)},
		{nil, list(1, 2)},
		{nil, nil},
	}
	for name, call := range calls() {
		for _, p := range pairs {
			a, b := roomy(p[0]), roomy(p[1])
			got := call(a, b)
			want := slices.Clone(got)
			if !slices.Equal(a[:len(a)+2], append(slices.Clone(p[0]), list(7, 7, 0, 99)...)) || !slices.Equal(b[:len(b)+2], append(slices.Clone(p[1]), list(7, 7, 0, 99)...)) {
				t.Errorf("%s(%v): what was handed in is another one: %v, %v", name, p, a, b)
			}
			again := call(a, b)
			clear(a[:len(a)+2])
			clear(b[:len(b)+2])
			if !slices.Equal(got, want) {
				t.Errorf("%s(%v) shares memory with what was handed in", name, p)
			}
			clear(got)
			if !slices.Equal(again, want) {
				t.Errorf("%s(%v): two answers share memory", name, p)
			}
			told(t, call(roomy(p[0]), roomy(p[1])), want, name, p[:]...)
			told(t, call(a, b), call(make([]api.Range, len(a)), make([]api.Range, len(b))), name, a, b) // the same memory, but another list
		}
	}
}

// R1, R5: who asks what a list holds changes nothing of it.
func TestAsked(t *testing.T) {
	l := list(7, 9, 5, 3, 1, 2, 1, 9)
	for range 2 {
		for r, class := range []int{-1, 2, 2, 3, 3, 3, 3, 0, 0, 0, -1} {
			if i := ranges.Class(l, rune(r)); i != class || ranges.Has(l, rune(r)) != (class >= 0) {
				t.Errorf("Class(%v, %d): %d, not %d", l, r, i, class)
			}
		}
	}
	if !slices.Equal(l, list(7, 9, 5, 3, 1, 2, 1, 9)) {
		t.Error("the list is another one:", l)
	}
	ls := [][]api.Range{list(5, 6, 1, 2), nil, list(2, 5)}
	ranges.Union(ls...)
	ranges.Split(ls...)
	if !slices.Equal(ls[0], list(5, 6, 1, 2)) || ls[1] != nil || !slices.Equal(ls[2], list(2, 5)) {
		t.Error("the lists are others:", ls)
	}
}
