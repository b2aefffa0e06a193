package mins

import "harbinger/subsets"

// net is the part of a table that counts: the states that are found from 0 on, by steps that lead to an end, each by the number by which it is found.
type net struct {
	columns []int   // the table's, as their first ranges stand
	rows    [][]int // of each state, by those columns: the next state; -1: none
	ends    []int   // of each state: the token that ends there; -1: none
	far     []int   // of each state: how many runes it is, at least, to a state at which something ends; -1: it leads to none
}

func newNet(t subsets.Table) *net {
	n, far := &net{columns: firsts(t.Class)}, distances(t)
	numbers, found := make([]int, len(t.Next)), []int{0}
	for state := range numbers {
		numbers[state] = -1
	}
	numbers[0] = 0
	for at := 0; at < len(found); at++ {
		state := found[at]
		row := make([]int, len(n.columns))
		for i, column := range n.columns {
			next := t.Next[state][column]
			if next < 0 || far[next] < 0 {
				row[i] = -1
				continue
			}
			if numbers[next] < 0 {
				numbers[next] = len(found)
				found = append(found, next)
			}
			row[i] = numbers[next]
		}
		n.rows, n.ends, n.far = append(n.rows, row), append(n.ends, t.Ends[state]), append(n.far, far[state])
	}
	return n
}

// firsts are the columns in the order of their first ranges.
func firsts(class []int) (columns []int) {
	seen := make([]bool, len(class))
	for _, column := range class {
		if !seen[column] {
			seen[column] = true
			columns = append(columns, column)
		}
	}
	return columns
}

// distances go backwards: from the states at which something ends to those that lead there, and on.
func distances(t subsets.Table) []int {
	var found []int
	from, far := backwards(t.Next), make([]int, len(t.Next))
	for state, end := range t.Ends {
		far[state] = -1
		if end >= 0 {
			far[state] = 0
			found = append(found, state)
		}
	}
	for at := 0; at < len(found); at++ {
		for _, state := range from[found[at]] {
			if far[state] < 0 {
				far[state] = far[found[at]] + 1
				found = append(found, state)
			}
		}
	}
	return far
}

// backwards are, of each state, those that lead there.
func backwards(rows [][]int) [][]int {
	from := make([][]int, len(rows))
	for state, row := range rows {
		for _, next := range row {
			if next >= 0 {
				from[next] = append(from[next], state)
			}
		}
	}
	return from
}

// merged takes each group as one state: of each where it leads by the columns, and what ends there. They keep the order in which they are found: what a state finds that is not the first one of its group, that one has found.
func (n *net) merged() (rows [][]int, ends []int) {
	groups := n.groups()
	for state, group := range groups {
		if group < len(rows) {
			continue
		}
		row := make([]int, len(n.columns))
		for column, next := range n.rows[state] {
			row[column] = next
			if next >= 0 {
				row[column] = groups[next]
			}
		}
		rows, ends = append(rows, row), append(ends, n.ends[state])
	}
	return rows, ends
}
