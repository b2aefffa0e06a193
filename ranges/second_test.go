package ranges_test

import (
	"math/rand/v2"
	"slices"
	"testing"

	"harbinger/api"
	"harbinger/ranges"
)

// A second reading of the chapter's words, number by number: of few numbers, from a base on, which of them each list holds stands as bits.

// width is how many numbers are looked at at most.
const width = 14

// held are the numbers from a base on that a list holds.
func held(l []api.Range, base int64) (set uint) {
	for i := range width {
		for _, r := range l {
			if n := base + int64(i); n >= int64(r.Low) && n <= int64(r.High) {
				set |= 1 << i
			}
		}
	}
	return set
}

// signs tell of each number by which of the sets it is held; nothing: by none.
func signs(sets []uint) [width]string {
	var all [width]string
	for i := range all {
		sign, some := "", false
		for _, set := range sets {
			sign += string("01"[set>>i&1])
			some = some || set>>i&1 == 1
		}
		if some {
			all[i] = sign
		}
	}
	return all
}

// runs are ranges of numbers with one sign, as long as may be.
func runs(base int64, sets ...uint) (l []api.Range) {
	ahead := ""
	for i, sign := range signs(sets) {
		n := rune(base + int64(i))
		switch {
		case sign == "":
		case sign == ahead:
			l[len(l)-1].High = n
		default:
			l = append(l, api.Range{Low: n, High: n})
		}
		ahead = sign
	}
	return l
}

// reread holds what is told of lists against the second reading.
func reread(t *testing.T, base int64, ls ...[]api.Range) {
	t.Helper()
	var sets []uint
	all := uint(0)
	for _, l := range ls {
		set := held(l, base)
		told(t, ranges.Neat(l), runs(base, set), "Neat", l)
		sets = append(sets, set)
		all |= set
	}
	told(t, ranges.Union(ls...), runs(base, all), "Union", ls...)
	told(t, ranges.Split(ls...), runs(base, sets...), "Split", ls...)
	for i, a := range ls[:min(len(ls), 3)] {
		for j, b := range ls[:min(len(ls), 3)] {
			told(t, ranges.Minus(a, b), runs(base, sets[i]&^sets[j]), "Minus", a, b)
			told(t, ranges.Both(a, b), runs(base, sets[i]&sets[j]), "Both", a, b)
			if slices.Equal(ranges.Neat(a), ranges.Neat(b)) != (sets[i] == sets[j]) { // P7.5
				t.Errorf("Neat(%v), Neat(%v): the same, or not", a, b)
			}
		}
	}
	if t.Failed() {
		t.FailNow()
	}
}

// asked holds what is told of each number of a list against the second reading.
func asked(t *testing.T, base int64, l []api.Range) {
	t.Helper()
	for i := range width {
		class := -1
		for at, r := range slices.Backward(l) {
			if held([]api.Range{r}, base)>>i&1 == 1 {
				class = at
			}
		}
		n := rune(base + int64(i))
		if ranges.Class(l, n) != class || ranges.Has(l, n) != (class >= 0) {
			t.Fatalf("Class, Has(%v, %d): %d, %t; not %d", l, n, ranges.Class(l, n), ranges.Has(l, n), class)
		}
	}
}

// small are all lists of so many ranges at most, that may hold nothing, with ends from a base on.
func small(most int, numbers rune, base rune) [][]api.Range {
	all := [][]api.Range{nil}
	for at := 0; at < len(all); at++ {
		if len(all[at]) == most {
			break
		}
		for low := range numbers {
			for high := range numbers {
				all = append(all, append(slices.Clone(all[at]), api.Range{Low: base + low, High: base + high}))
			}
		}
	}
	return all
}

// bases are where numbers are looked at: the least and the greatest ones there are, those about nought, and about where runes are over.
func bases() []int64 {
	return []int64{least, -3, 0, 55296 - 5, 57344 - 5, 1114112 - 5, greatest - width + 1}
}

// P7.1 to P7.5: all short lists of few numbers.
func TestShortLists(t *testing.T) {
	for _, base := range []rune{least, -2, greatest - 3} {
		lists := small(3, 4, base)
		if len(lists) != 1+16+16*16+16*16*16 {
			t.Fatal(len(lists), "lists")
		}
		from := int64(base)
		if base > 0 {
			from = greatest - width + 1 // no number is beyond
		}
		for _, l := range lists {
			reread(t, from, l)
			asked(t, from, l)
		}
	}
}

// P7.1 to P7.5: all pairs of shorter ones, and some of three.
func TestPairs(t *testing.T) {
	lists := small(2, 4, 1)
	for i, a := range lists {
		for j, b := range lists {
			reread(t, 0, a, b)
			if i <= 16 && j <= 16 {
				for _, c := range lists[:17] {
					reread(t, 0, a, b, c)
				}
			}
		}
	}
}

// P7.1 to P7.5: whatever lists.
func TestWhateverLists(t *testing.T) {
	r := rand.New(rand.NewPCG(7, 5))
	for i := range 30000 {
		base := bases()[i%len(bases())]
		var ls [][]api.Range
		for range r.IntN(7) {
			var l []api.Range
			for range r.IntN(6) {
				low := r.IntN(width)
				high := low - 1 + r.IntN(width-low+1)
				if r.IntN(9) == 0 {
					high = r.IntN(width)
				}
				high = max(high, 0) // ahead of the least base there is no number
				l = append(l, api.Range{Low: rune(base + int64(low)), High: rune(base + int64(high))})
			}
			ls = append(ls, l)
		}
		reread(t, base, ls...)
		if len(ls) > 0 {
			asked(t, base, ls[0])
		}
	}
}
