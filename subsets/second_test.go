package subsets_test

import (
	"math"
	"math/rand/v2"
	"reflect"
	"slices"
	"testing"

	"harbinger/api"
	"harbinger/checks"
	. "harbinger/made"
	"harbinger/nfas"
	"harbinger/subsets"
)

// A second reading of the chapter's words, number by number: of few numbers, from a base on, which places' Sets hold each of them.

// width is how many numbers are looked at.
const width = 9

// holds tells whether a place's Set holds a number.
func holds(p nfas.Place, n int64) bool {
	return slices.ContainsFunc(p.Set, func(r api.Range) bool { return int64(r.Low) <= n && n <= int64(r.High) })
}

// holders are all places whose Sets hold a number.
func holders(a nfas.Auto, n int64) (l []int) {
	for i, p := range a.Places {
		if holds(p, n) {
			l = append(l, i)
		}
	}
	return l
}

// columns are stretches of numbers that the same places hold; each stands for itself by its first one.
func columns(a nfas.Auto, base int64) (l []api.Range) {
	var ahead []int
	for n := base; n < base+width; n++ {
		now := holders(a, n)
		switch {
		case len(now) == 0:
		case slices.Equal(now, ahead):
			l[len(l)-1].High = rune(n)
		default:
			l = append(l, api.Range{Low: rune(n), High: rune(n)})
		}
		ahead = now
	}
	return l
}

// opened is what is open behind one number more: those of some places whose Sets hold it.
func opened(a nfas.Auto, ahead []int, n int64) (l []int) {
	for _, p := range holders(a, n) {
		if slices.Contains(ahead, p) {
			l = append(l, p)
		}
	}
	return l
}

// follow are all places that follow some.
func follow(a nfas.Auto, open []int) (l []int) {
	for _, p := range open {
		l = append(l, a.Places[p].Follow...)
	}
	return l
}

// ending is the least token that ends at some places.
func ending(a nfas.Auto, open []int) int {
	end := math.MaxInt
	for _, p := range open {
		if a.Places[p].Last {
			end = min(end, a.Places[p].Kind)
		}
	}
	if end == math.MaxInt {
		return -1
	}
	return end
}

// reread is the table of places that may be, in numbers from a base on.
func reread(a nfas.Auto, base int64) subsets.Table {
	t := subsets.Table{Ranges: columns(a, base), Next: [][]int{{}}, Ends: []int{-1}}
	open := [][]int{nil}
	for state := 0; state < len(open); state++ {
		ahead := a.First
		if state > 0 {
			ahead = follow(a, open[state])
		}
		for column, r := range t.Ranges {
			if state == 0 {
				t.Class = append(t.Class, column)
			}
			next, now := -1, opened(a, ahead, int64(r.Low))
			if len(now) > 0 {
				next = slices.IndexFunc(open, func(l []int) bool { return slices.Equal(l, now) })
			}
			if len(now) > 0 && next < 0 {
				next = len(open)
				open = append(open, now)
				t.Next = append(t.Next, []int{})
				t.Ends = append(t.Ends, ending(a, now))
			}
			t.Next[state] = append(t.Next[state], next)
		}
	}
	return t
}

// same tells whether both tables have the same; of nothing it makes no difference whether there is a list.
func same(a, b subsets.Table) bool {
	return slices.Equal(a.Ranges, b.Ranges) && slices.Equal(a.Class, b.Class) && slices.EqualFunc(a.Next, b.Next, slices.Equal) && slices.Equal(a.Ends, b.Ends)
}

// held holds what is made of places against the second reading, and tells how many states there are.
func held(t *testing.T, a nfas.Auto, base int64) int {
	t.Helper()
	table, e := subsets.Of(a)
	want := reread(a, base)
	if e != api.OK || !same(table, want) {
		t.Fatalf("Of(%s): error %d\n%v, not\n%v", text(a), e, table, want)
	}
	if !subsets.May(table) {
		t.Fatalf("May(%v): no", table)
	}
	return len(table.Next)
}

// lists are all of some places, rising.
func lists(places int) (all [][]int) {
	for bits := range 1 << places {
		var l []int
		for p := range places {
			if bits>>p&1 == 1 {
				l = append(l, p)
			}
		}
		all = append(all, l)
	}
	return all
}

// P9.1: all of two places, with some Sets.
func TestSmall(t *testing.T) {
	sets := []string{"", "aa", "bb", "ab", "bc", "ac", "aacc", "ccaa", "aabb", "baab"}
	count, greatest := 0, 0
	for _, x := range sets {
		for _, y := range sets {
			for bits := range 1 << 10 {
				l := lists(2)
				a := auto(2, l[bits&3], at(x, bits>>2&1, l[bits>>3&3]...), at(y, bits>>5&1, l[bits>>6&3]...))
				a.Places[0].Last, a.Places[1].Last = bits>>8&1 == 1, bits>>9&1 == 1
				greatest = max(greatest, held(t, a, 'a'-2))
				count++
			}
		}
	}
	if count != 102400 || greatest != 4 {
		t.Errorf("%d of them, with up to %d states", count, greatest)
	}
}

// whatever is places of which there may be a table, with Sets of numbers from a base on.
func whatever(r *rand.Rand, base int64) nfas.Auto {
	places := r.IntN(12)
	some := func() (l []int) {
		for p := range places {
			if r.IntN(3) == 0 {
				l = append(l, p)
			}
		}
		return l
	}
	a := nfas.Auto{First: some(), Kinds: 1 + r.IntN(5)}
	for range places {
		p := nfas.Place{Kind: r.IntN(a.Kinds), Last: r.IntN(2) == 0, Follow: some()}
		if len(a.Places) > 0 && r.IntN(3) == 0 {
			p.Set = slices.Clone(a.Places[r.IntN(len(a.Places))].Set) // as of one fragment
		}
		for range r.IntN(4) {
			low := base + int64(r.IntN(width))
			p.Set = append(p.Set, api.Range{Low: rune(low), High: rune(base + int64(r.IntN(width)))})
		}
		a.Places = append(a.Places, p)
	}
	return a
}

// P9.1, P9.2: whatever places; and each step by each number, from each state, and where there is none.
func TestWhatever(t *testing.T) {
	r := rand.New(rand.NewPCG(9, 1))
	greatest := 0
	for i := range 30000 {
		base := []int64{math.MinInt32, -4, 0, 'a', 55296 - 4, 57344 - 4, 1114112 - 4, math.MaxInt32 - width + 1}[i%8]
		a := whatever(r, base)
		greatest = max(greatest, held(t, a, base))
		table := built(t, a)
		for state := -1; state <= len(table.Next); state++ {
			for n := base; n < base+width; n++ {
				want := -1
				at := slices.IndexFunc(table.Ranges, func(x api.Range) bool { return int64(x.Low) <= n && n <= int64(x.High) })
				if at >= 0 && state >= 0 && state < len(table.Next) {
					want = table.Next[state][at]
				}
				if next := table.Step(state, rune(n)); next != want {
					t.Fatalf("%v: %d by %d: %d, not %d", table, state, n, next, want)
				}
			}
		}
	}
	if greatest < 30 {
		t.Error("at most", greatest, "states")
	}
}

// P9.1: whatever places of which something is another number: either they are still such as may be, or the error is told.
func TestWhateverWrong(t *testing.T) {
	r := rand.New(rand.NewPCG(9, 2))
	found := 0
	for range 30000 {
		a := whatever(r, 'a')
		odd := []int{-1, math.MinInt, math.MaxInt, len(a.Places), len(a.Places) - 1, 0, 1, a.Kinds}[r.IntN(8)]
		lists := [][]int{a.First}
		for _, p := range a.Places {
			lists = append(lists, p.Follow)
		}
		if l := lists[r.IntN(len(lists))]; len(l) > 0 && r.IntN(2) == 0 {
			l[r.IntN(len(l))] = odd
		} else if len(a.Places) > 0 {
			a.Places[r.IntN(len(a.Places))].Kind = odd
		}
		wrong := false
		for _, l := range lists {
			for i, p := range l {
				wrong = wrong || p < 0 || p >= len(a.Places) || slices.Contains(l[:i], p) || !slices.IsSorted(l)
			}
		}
		for _, p := range a.Places {
			wrong = wrong || p.Kind < 0 || p.Kind >= a.Kinds
		}
		if !wrong {
			held(t, a, 'a')
			continue
		}
		found++
		refused(t, a, api.ErrArg)
	}
	if found < 10000 {
		t.Error(found, "are wrong")
	}
}

// P9.2: tables of which one number is another one may be, or not, as the words say it.
func TestWhateverTables(t *testing.T) {
	r := rand.New(rand.NewPCG(9, 3))
	may, not := 0, 0
	for range 30000 {
		table := built(t, whatever(r, 'a'))
		for range r.IntN(3) {
			Spoil(r.IntN, &table)
		}
		want := allowed(table)
		if ok := subsets.May(table); ok != want {
			t.Fatalf("May(%v): %t", table, ok)
		}
		if want {
			may++
		} else {
			not++
		}
		table.Step(r.IntN(len(table.Next)+3)-1, 'a'+rune(r.IntN(width))) // ends, whatever it is of (R1)
	}
	if may < 5000 || not < 5000 {
		t.Error(may, "may be,", not, "may not")
	}
}

// allowed tells by the chapter's words, one by one, whether a table may be.
func allowed(t subsets.Table) bool {
	for i, r := range t.Ranges {
		for _, q := range t.Ranges[:i] {
			if q.High >= r.Low {
				return false
			}
		}
		if r.High < r.Low {
			return false
		}
	}
	columns := 0
	for _, c := range t.Class {
		if c == math.MaxInt {
			return false
		}
		columns = max(columns, c+1)
	}
	for c := range columns {
		if !slices.Contains(t.Class, c) {
			return false
		}
	}
	if slices.ContainsFunc(t.Class, func(c int) bool { return c < 0 }) || len(t.Class) != len(t.Ranges) {
		return false
	}
	for _, row := range t.Next {
		if len(row) != columns || slices.ContainsFunc(row, func(n int) bool { return n < -1 || n >= len(t.Next) }) {
			return false
		}
	}
	return len(t.Next) >= 1 && len(t.Ends) == len(t.Next) && slices.Min(t.Ends) >= -1
}

// P9.3: what ends where each short text leads is the least token of which it is one, by the rules themselves; where it leads nowhere, it begins none.
func TestShortTexts(t *testing.T) {
	r := rand.New(rand.NewPCG(9, 4))
	short := Short(6)
	ends, nowhere := 0, 0
	for range 10000 {
		g := Tokens(r.IntN)
		if !checks.Fine(g) {
			continue
		}
		a, e := nfas.Build(g)
		if e != api.OK {
			t.Fatal(g, e)
		}
		table := built(t, a)
		for _, s := range short {
			want := -1
			for kind, at := range checks.Of(g, api.SToken, api.SSkip) {
				if want < 0 && Matches(g, g.Rules[at].Body, s) {
					want = kind
				}
			}
			state := 0
			for _, x := range s {
				state = table.Step(state, x)
			}
			if state < 0 && want < 0 {
				nowhere++
				continue
			}
			if state < 0 || table.Ends[state] != want {
				t.Fatalf("%v: %s leads to %d; of %d", g.Rules, s, state, want)
			}
			ends++
		}
	}
	if ends < 10000 || nowhere < 10000 {
		t.Errorf("%d texts lead somewhere, %d nowhere", ends, nowhere)
	}
}

// R5: the same places in other memory, and again, have the same table.
func TestAgain(t *testing.T) {
	r := rand.New(rand.NewPCG(9, 5))
	for range 1000 {
		a := whatever(r, 'a')
		b := nfas.Auto{Places: slices.Clone(a.Places), First: slices.Clone(a.First), Kinds: a.Kinds}
		for i, p := range a.Places {
			b.Places[i].Set, b.Places[i].Follow = slices.Clone(p.Set), slices.Clone(p.Follow)
		}
		first := built(t, a)
		for range 3 {
			if !reflect.DeepEqual(built(t, b), first) {
				t.Fatal(text(a), "has two tables")
			}
		}
		if !reflect.DeepEqual(a, b) {
			t.Fatal(text(a), "was", text(b))
		}
	}
}
