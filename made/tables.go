package made

import (
	"math"
	"slices"
	"strconv"
	"strings"

	"harbinger/api"
	"harbinger/nfas"
	"harbinger/subsets"
)

// Span is a range as text: letters, and other numbers as digits.
func Span(r api.Range) string {
	one := func(n rune) string {
		if n >= 'a' && n <= 'z' {
			return string(n)
		}
		return strconv.Itoa(int(n))
	}
	if r.Low == r.High {
		return one(r.Low)
	}
	return one(r.Low) + "-" + one(r.High)
}

// Line tells a table of which each column is some range's: of each column its ranges; then of each state by the first range of which columns it leads where, and behind ! what ends there. One is "a,x b-c: a>1; b-c>0 !7".
func Line(t subsets.Table) string {
	var columns [][]string
	for i, r := range t.Ranges {
		for len(columns) <= t.Class[i] {
			columns = append(columns, nil)
		}
		columns[t.Class[i]] = append(columns[t.Class[i]], Span(r))
	}
	var parts []string
	for _, column := range columns {
		parts = append(parts, strings.Join(column, ","))
	}
	s := strings.Join(parts, " ") + ":"
	for state, row := range t.Next {
		if state > 0 {
			s += ";"
		}
		for column, next := range row {
			if next != -1 {
				s += " " + columns[column][0] + ">" + strconv.Itoa(next)
			}
		}
		if end := t.Ends[state]; end != -1 {
			s += " !" + strconv.Itoa(end)
		}
	}
	return s
}

// Table is what a line tells, of ranges between letters or between numbers from 0 on.
func Table(line string) (t subsets.Table) {
	head, body, _ := strings.Cut(line, ":")
	first := map[string]int{} // columns by their first ranges
	for column, spans := range strings.Fields(head) {
		for i, span := range strings.Split(spans, ",") {
			if i == 0 {
				first[span] = column
			}
			t.Ranges, t.Class = append(t.Ranges, spanned(span)), append(t.Class, column)
		}
	}
	sorted(t)
	for _, state := range strings.Split(body, ";") {
		row, end := slices.Repeat([]int{-1}, len(first)), -1
		for _, part := range strings.Fields(state) {
			if span, next, ok := strings.Cut(part, ">"); ok {
				row[first[span]] = number(next)
			} else {
				end = number(part[1:])
			}
		}
		t.Next, t.Ends = append(t.Next, row), append(t.Ends, end)
	}
	return t
}

// sorted puts a table's ranges, with their columns, in order.
func sorted(t subsets.Table) {
	for i := range t.Ranges {
		for ; i > 0 && t.Ranges[i].Low < t.Ranges[i-1].Low; i-- {
			t.Ranges[i], t.Ranges[i-1] = t.Ranges[i-1], t.Ranges[i]
			t.Class[i], t.Class[i-1] = t.Class[i-1], t.Class[i]
		}
	}
}

func spanned(text string) api.Range {
	one := func(text string) rune {
		if text[0] >= 'a' && text[0] <= 'z' {
			return rune(text[0])
		}
		return rune(number(text))
	}
	low, high, ok := strings.Cut(text, "-")
	if !ok {
		high = low
	}
	return api.Range{Low: one(low), High: one(high)}
}

func number(text string) int {
	n, err := strconv.Atoi(text)
	if err != nil {
		panic(err)
	}
	return n
}

// Lexed is the table of the tokens that a text tells, of a grammar with which nothing is wrong.
func Lexed(text string) subsets.Table {
	a, e := nfas.Build(Read("s : ; " + text))
	t, f := subsets.Of(a)
	if e != api.OK || f != api.OK {
		panic(text)
	}
	return t
}

// Drawn is a table of whatever few states, that may be; its ranges hold numbers from a base on, so many. What is drawn is a number below the one that is told.
func Drawn(draw func(below int) int, base rune, width int) (t subsets.Table) {
	for at, left := 0, draw(5); at < width && left > 0; left-- {
		low := at + draw(3)*draw(2) // often right behind the one ahead of it
		at = low + 1 + draw(3)
		if at <= width {
			t.Ranges = append(t.Ranges, api.Range{Low: base + rune(low), High: base + rune(at-1)})
		}
	}
	columns := 0
	for range t.Ranges {
		column := draw(columns + 1)
		columns = max(columns, column+1)
		t.Class = append(t.Class, column)
	}
	turn := draw(columns + 1)
	for i := range t.Class {
		t.Class[i] = (t.Class[i] + turn) % columns
	}
	states := 1 + draw(7)
	for range states {
		var row []int
		for range columns {
			row = append(row, draw(states+2)%(states+1)-1)
		}
		t.Next, t.Ends = append(t.Next, row), append(t.Ends, max(-1, draw(7)-4))
	}
	return t
}

// Copied is a table in other memory.
func Copied(t subsets.Table) subsets.Table {
	out := subsets.Table{Ranges: slices.Clone(t.Ranges), Class: slices.Clone(t.Class), Next: slices.Clone(t.Next), Ends: slices.Clone(t.Ends)}
	for i, row := range t.Next {
		out.Next[i] = slices.Clone(row)
	}
	return out
}

// Spoil puts another number somewhere into a table, or takes something away, or adds it.
func Spoil(draw func(below int) int, t *subsets.Table) {
	n := []int{-2, -1, 0, 1, 2, len(t.Class), len(t.Next), len(t.Next) - 1, math.MaxInt}[draw(9)]
	lists := []*[]int{&t.Class, &t.Ends}
	for i := range t.Next {
		lists = append(lists, &t.Next[i])
	}
	l := lists[draw(len(lists))]
	if draw(2) == 0 {
		l = lists[draw(2)]
	}
	switch draw(6) {
	case 0:
		*l = append(*l, n)
	case 1:
		*l = (*l)[:len(*l)/2]
	case 2:
		if len(t.Ranges) > 0 {
			t.Ranges[draw(len(t.Ranges))].Low += rune(draw(5) - 2)
		}
	case 3: // two columns that are one, or change places
		if len(t.Class) > 0 {
			i, j := draw(len(t.Class)), draw(len(t.Class))
			t.Class[i], t.Class[j] = t.Class[j], t.Class[i]
		}
	default:
		if len(*l) > 0 {
			(*l)[draw(len(*l))] = n
		}
	}
}

// Wrong are tables that may not be.
func Wrong() []subsets.Table {
	a := Set('a', 'a').Set
	return []subsets.Table{
		{},
		{Next: [][]int{nil}},
		{Ends: []int{0}},
		{Next: [][]int{nil}, Ends: []int{-2}},
		{Next: [][]int{{0}}, Ends: []int{0}},
		{Ranges: a, Next: [][]int{nil}, Ends: []int{0}},
		{Ranges: a, Class: []int{0}, Next: [][]int{nil}, Ends: []int{0}},
		{Ranges: a, Class: []int{0}, Next: [][]int{{1}}, Ends: []int{0}},
		{Ranges: a, Class: []int{0}, Next: [][]int{{-2}}, Ends: []int{0}},
		{Ranges: a, Class: []int{1}, Next: [][]int{{0, 0}}, Ends: []int{0}},
		{Ranges: a, Class: []int{-1}, Next: [][]int{{0}}, Ends: []int{0}},
		{Ranges: Set('b', 'a').Set, Class: []int{0}, Next: [][]int{{0}}, Ends: []int{0}},
		{Ranges: Set('a', 'b', 'b', 'c').Set, Class: []int{0, 0}, Next: [][]int{{0}}, Ends: []int{0}},
		{Ranges: Set('b', 'b', 'a', 'a').Set, Class: []int{0, 0}, Next: [][]int{{0}}, Ends: []int{0}},
		{Ranges: a, Class: []int{0}, Next: [][]int{{0}, {5}}, Ends: []int{0, 0}}, // in a state that nothing leads to
		{Ranges: a, Class: []int{0}, Next: [][]int{{0}, {0, 0}}, Ends: []int{0, 0}},
		{Ranges: a, Class: []int{math.MaxInt}, Next: [][]int{{0}}, Ends: []int{0}},
		{Ranges: a, Class: []int{0}, Next: [][]int{{math.MaxInt}, {math.MinInt}}, Ends: []int{0, math.MinInt}},
	}
}

// Done is what a table does with a text, by Step.
func Done(t subsets.Table, text string) int {
	state := 0
	for _, r := range text {
		if state = t.Step(state, r); state < 0 {
			return -1
		}
	}
	return t.Ends[state]
}
