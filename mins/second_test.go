package mins_test

import (
	"math"
	"math/rand/v2"
	"reflect"
	"slices"
	"testing"

	"harbinger/api"
	"harbinger/checks"
	. "harbinger/made"
	"harbinger/mins"
	"harbinger/nfas"
	"harbinger/subsets"
)

// A second reading of the chapter's words, number by number: of few numbers, from a base on, where each state leads; and pair by pair, which states do not the same.

const (
	width = 9 // of the numbers whose ranges tables have
	ahead = 4 // a range may come to begin so far ahead of them
	wide  = ahead + width
)

// leads is where a state leads by each number; from the state that is none to none. That one is behind all others.
func leads(t subsets.Table, base int64) [][]int {
	none := len(t.Next)
	var all [][]int
	for state := range none + 1 {
		row := make([]int, wide)
		for n := range row {
			row[n] = none
			for i, r := range t.Ranges {
				number := base - ahead + int64(n)
				if state < none && int64(r.Low) <= number && number <= int64(r.High) && t.Next[state][t.Class[i]] >= 0 {
					row[n] = t.Next[state][t.Class[i]]
				}
			}
		}
		all = append(all, row)
	}
	return all
}

// differ tells of each two states whether they do not the same with some text.
func differ(rows [][]int, ends []int) [][]bool {
	all := make([][]bool, len(rows))
	for i := range rows {
		all[i] = make([]bool, len(rows))
		for j := range rows {
			all[i][j] = ends[i] != ends[j]
		}
	}
	for again := true; again; {
		again = false
		for i := range rows {
			for j := range rows {
				for n := range rows[i] {
					if !all[i][j] && all[rows[i][n]][rows[j][n]] {
						all[i][j], again = true, true
					}
				}
			}
		}
	}
	return all
}

// reread is the least table of one that may be, of numbers from a base on.
func reread(t subsets.Table, base int64) subsets.Table {
	none := len(t.Next)
	rows, ends := leads(t, base), append(slices.Clone(t.Ends), -1)
	apart := differ(rows, ends)
	found := []int{0}
	number := func(state int) int { // of one that does the same, or of one more
		if !apart[state][none] {
			return -1
		}
		at := slices.IndexFunc(found, func(other int) bool { return !apart[state][other] })
		if at < 0 {
			at = len(found)
			found = append(found, state)
		}
		return at
	}
	columns := make([][]int, wide)
	out := subsets.Table{}
	for at := 0; at < len(found); at++ {
		for n := range columns {
			columns[n] = append(columns[n], number(rows[found[at]][n]))
		}
		out.Next, out.Ends = append(out.Next, []int{}), append(out.Ends, ends[found[at]])
	}
	var kept [][]int
	for n, column := range columns {
		if slices.Max(column) < 0 {
			continue
		}
		class := slices.IndexFunc(kept, func(other []int) bool { return slices.Equal(column, other) })
		if class < 0 {
			class = len(kept)
			kept = append(kept, column)
			for state, next := range column {
				out.Next[state] = append(out.Next[state], next)
			}
		}
		if n > 0 && slices.Equal(columns[n-1], column) {
			out.Ranges[len(out.Ranges)-1].High++
			continue
		}
		r := rune(base - ahead + int64(n))
		out.Ranges, out.Class = append(out.Ranges, api.Range{Low: r, High: r}), append(out.Class, class)
	}
	return out
}

// held holds the least table of one that may be against the second reading, and is it.
func held(t *testing.T, table subsets.Table, base int64) subsets.Table {
	t.Helper()
	out, e := mins.Least(table)
	if want := reread(table, base); e != api.OK || !reflect.DeepEqual(out, want) {
		t.Fatalf("Least(%s): error %d\n%v, not\n%v", Line(table), e, out, want)
	}
	return out
}

// few are all tables of so many states and of ranges a and b, at which some things end.
func few(states int, ends ...int) (all []subsets.Table) {
	choices := make([]int, 0, 3*states)
	for range states {
		choices = append(choices, states+1, states+1, len(ends))
	}
	count := 1
	for _, c := range choices {
		count *= c
	}
	for x := range count {
		t := subsets.Table{Ranges: Set('a', 'a', 'b', 'b').Set, Class: []int{0, 1}}
		for range states {
			t.Next = append(t.Next, []int{x%(states+1) - 1, x/(states+1)%(states+1) - 1})
			x /= (states + 1) * (states + 1)
			t.Ends = append(t.Ends, ends[x%len(ends)])
			x /= len(ends)
		}
		all = append(all, t)
	}
	return all
}

// P10.1: all tables of up to three states and two ranges, whichever column is whose.
func TestSmall(t *testing.T) {
	count := 0
	for states := 1; states <= 3; states++ {
		for _, table := range few(states, -1, 0, 1) {
			held(t, table, 'a')
			table.Class = []int{1, 0}
			held(t, table, 'a')
			count += 2
		}
	}
	if count != 2*(3*4+81*9+4096*27) {
		t.Error(count)
	}
}

// P10.1, P10.2, P10.3: all tables of up to three states, by what they do with all texts that could tell two of them apart: of those that do the same the least one is the same, has just as few states as the one of fewest, and they are alike; of two that do not, it is another one, and they are not.
func TestFewest(t *testing.T) {
	texts := append(Short(6), "")
	type group struct {
		states int // as few as one of them has
		least  subsets.Table
		first  subsets.Table
	}
	groups, lines := map[string]group{}, map[string]string{}
	for states := 1; states <= 3; states++ { // first those of few
		for _, table := range few(states, -1, 0) {
			var does []byte
			for _, text := range texts {
				does = append(does, byte(1+Done(table, text)))
			}
			out := least(t, table)
			g, ok := groups[string(does)]
			if !ok {
				g = group{states, out, table}
				groups[string(does)] = g
				if other, ok := lines[Line(out)]; ok {
					t.Fatalf("%s has the least one of %s", Line(table), other)
				}
				lines[Line(out)] = Line(table)
			}
			if len(out.Next) != g.states || !reflect.DeepEqual(out, g.least) || !mins.Alike(table, g.first) {
				t.Fatalf("Least(%s): %s; of %s: %s", Line(table), Line(out), Line(g.first), Line(g.least))
			}
		}
	}
	if len(groups) < 1000 {
		t.Error(len(groups), "do not the same")
	}
}

// blown is a table that does the same as another one: each state several times, some ranges split, columns twice, in another order, and states at which nothing ends, or that nothing leads to.
func blown(r *rand.Rand, t subsets.Table) subsets.Table {
	var of []int // of each state
	for state := range t.Next {
		for range 1 + r.IntN(3) {
			of = append(of, state)
		}
	}
	r.Shuffle(len(of)-1, func(i, j int) { of[i+1], of[j+1] = of[j+1], of[i+1] }) // 0 stays
	dead := len(of)
	out := subsets.Table{}
	for _, x := range t.Ranges {
		if x.Low < x.High && r.IntN(2) == 0 {
			middle := x.Low + rune(r.IntN(int(x.High-x.Low)))
			out.Ranges = append(out.Ranges, api.Range{Low: x.Low, High: middle})
			x.Low = middle + 1
		}
		out.Ranges = append(out.Ranges, x)
	}
	out.Class = r.Perm(len(out.Ranges))
	for at := range dead + 1 {
		row, state, end := slices.Repeat([]int{dead}, len(out.Ranges)), -1, -1
		if at < dead {
			state, end = of[at], t.Ends[of[at]]
		}
		for i, x := range out.Ranges {
			next := t.Step(state, x.Low)
			switch {
			case next >= 0:
				same := r.IntN(dead)
				for of[same] != next {
					same = r.IntN(dead)
				}
				row[out.Class[i]] = same
			case r.IntN(2) == 0:
				row[out.Class[i]] = -1
			}
		}
		out.Next, out.Ends = append(out.Next, row), append(out.Ends, end)
	}
	return out
}

// alike tells by pairs of states that the same text leads to whether two tables do the same.
func alike(a, b subsets.Table, base int64) bool {
	x, y := leads(a, base), leads(b, base)
	ends := [2][]int{append(slices.Clone(a.Ends), -1), append(slices.Clone(b.Ends), -1)}
	found := [][2]int{{0, 0}}
	for at := 0; at < len(found); at++ {
		p := found[at]
		if ends[0][p[0]] != ends[1][p[1]] {
			return false
		}
		for n := range wide {
			next := [2]int{x[p[0]][n], y[p[1]][n]}
			if !slices.Contains(found, next) {
				found = append(found, next)
			}
		}
	}
	return true
}

// P10.1, P10.2, P10.3: whatever tables, others that do the same, and such that hardly differ.
func TestWhatever(t *testing.T) {
	r := rand.New(rand.NewPCG(10, 1))
	greatest, same, not := 0, 0, 0
	for i := range 30000 {
		base := []int64{math.MinInt32, -4, 0, 'a', 55296 - 4, 57344 - 4, 1114112 - 4, math.MaxInt32 - width + 1}[i%8]
		table := Drawn(r.IntN, rune(base), width)
		out := held(t, table, base)
		greatest = max(greatest, len(out.Next))
		other := blown(r, table)
		if !subsets.May(other) || !reflect.DeepEqual(held(t, other, base), out) || !mins.Alike(other, table) {
			t.Fatalf("%s does the same as %s", Line(other), Line(table))
		}
		Spoil(r.IntN, &other)
		if !subsets.May(other) {
			continue
		}
		want := alike(table, other, base)
		if ok := mins.Alike(table, other); ok != want || mins.Alike(other, table) != want || reflect.DeepEqual(held(t, other, base), out) != want {
			t.Fatalf("Alike(%s, %s): %t", Line(table), Line(other), ok)
		}
		if want {
			same++
		} else {
			not++
		}
	}
	if greatest < 7 || same < 1000 || not < 1000 {
		t.Errorf("up to %d states; %d spoiled ones do the same, %d do not", greatest, same, not)
	}
}

// P10.1: many states, of few groups or of many.
func TestWhateverMany(t *testing.T) {
	r := rand.New(rand.NewPCG(10, 2))
	greatest := 0
	for range 200 {
		table := subsets.Table{Ranges: Set('a', 'a', 'b', 'c').Set, Class: []int{1, 0}}
		states := 20 + r.IntN(40)
		for state := range states {
			row := []int{r.IntN(states), (state + 1) % states} // a ring, and steps across
			if r.IntN(4) > 0 {
				row[0] = []int{-1, state / 2, state ^ 1, (state + 2) % states}[r.IntN(4)] % states
			}
			table.Next, table.Ends = append(table.Next, row), append(table.Ends, max(-1, r.IntN(12)-10))
		}
		out := held(t, table, 'a')
		greatest = max(greatest, len(out.Next))
		other := blown(r, table)
		if !reflect.DeepEqual(held(t, other, 'a'), out) || !mins.Alike(table, other) {
			t.Fatalf("%s does the same as %s", Line(other), Line(table))
		}
	}
	if greatest < 50 {
		t.Error("up to", greatest, "states")
	}
}

// P10.1, P10.2: tables of which one number is another one: either they are still such as may be, or the error is told.
func TestWhateverWrong(t *testing.T) {
	r := rand.New(rand.NewPCG(10, 3))
	found := 0
	for range 30000 {
		table := Drawn(r.IntN, 'a', width)
		other := Copied(table)
		for range 1 + r.IntN(2) {
			Spoil(r.IntN, &other)
		}
		if subsets.May(other) {
			held(t, other, 'a')
			continue
		}
		found++
		if out, e := mins.Least(other); e != api.ErrArg || !reflect.DeepEqual(out, subsets.Table{}) {
			t.Fatalf("Least(%v): error %d, %v", other, e, out)
		}
		if mins.Alike(other, table) || mins.Alike(table, other) || mins.Alike(other, other) {
			t.Fatalf("%v is alike", other)
		}
	}
	if found < 10000 {
		t.Error(found, "may not be")
	}
}

// P10.3: the table of whatever tokens, and its least one, do the same with each short text.
func TestShortTexts(t *testing.T) {
	r := rand.New(rand.NewPCG(10, 4))
	short := append(Short(6), "")
	fewer := 0
	for range 15000 {
		g := Tokens(r.IntN)
		if !checks.Fine(g) {
			continue
		}
		a, e := nfas.Build(g)
		table, f := subsets.Of(a)
		if e != api.OK || f != api.OK {
			t.Fatal(g, e, f)
		}
		out := held(t, table, 'a')
		for _, s := range short {
			if Done(out, s) != Done(table, s) {
				t.Fatalf("%v: with %s the least one does %d, not %d", g.Rules, s, Done(out, s), Done(table, s))
			}
		}
		if len(out.Next) < len(table.Next) {
			fewer++
		}
	}
	if fewer < 500 {
		t.Error(fewer, "have fewer states")
	}
}

// R5: the same table in other memory, and again, has the same least one.
func TestAgain(t *testing.T) {
	r := rand.New(rand.NewPCG(10, 5))
	for range 1000 {
		table := blown(r, Drawn(r.IntN, 'a', width))
		was, first := Copied(table), least(t, table)
		for range 3 {
			if !reflect.DeepEqual(least(t, was), first) {
				t.Fatal(Line(table), "has two")
			}
		}
		if !mins.Alike(table, was) || !reflect.DeepEqual(table, was) {
			t.Fatal(Line(was), "was", Line(table))
		}
	}
}
