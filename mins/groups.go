package mins

// mark is what states are told apart by: two that do the same have the same one.
type mark struct {
	end   int
	far   int
	group int
	leads string // of one that is looked at: the groups to which it leads, by the columns
}

// groups of states that do the same with each text, by numbers, as they are met. At first all are in one; those whose marks differ come apart, and by them others, again and again.
func (n *net) groups() []int {
	groups, look := make([]int, len(n.rows)), make([]bool, len(n.rows))
	for state := range look {
		look[state] = true
	}
	from := backwards(n.rows)
again:
	for {
		apart := n.marked(groups, look)
		for state, group := range apart {
			if group != groups[state] {
				look = led(from, groups, apart)
				groups = apart
				continue again
			}
		}
		return groups
	}
}

// marked are the groups that have a mark each: where none comes apart, all keep their numbers. One that is not looked at leads where it led.
func (n *net) marked(groups []int, look []bool) []int {
	numbers := map[mark]int{}
	apart := make([]int, len(n.rows))
	for state, group := range groups {
		m := mark{end: n.ends[state], far: n.far[state], group: group}
		if look[state] {
			m.leads = n.leads(state, groups)
		}
		number, ok := numbers[m]
		if !ok {
			number = len(numbers)
			numbers[m] = number
		}
		apart[state] = number
	}
	return apart
}

// leads tells as text to which groups a state leads.
func (n *net) leads(state int, groups []int) string {
	var text []byte
	for _, next := range n.rows[state] {
		if next >= 0 {
			next = groups[next]
		}
		text = written(text, next)
	}
	return string(text)
}

// written adds a number to a text, by four bytes: of as many numbers texts are the same just if all of these are.
func written(text []byte, number int) []byte {
	return append(text, byte(number), byte(number>>8), byte(number>>16), byte(number>>24))
}

// led tells which states are to be looked at again: those that lead to one that came apart from the most of its group. So each is looked at few times, though a few come apart again and again.
func led(from [][]int, groups, apart []int) []bool {
	sizes, most := make([]int, len(apart)), make([]int, len(apart)) // of each part; of each group: its greatest part
	for _, part := range apart {
		sizes[part]++
	}
	for state, part := range apart {
		most[groups[state]] = part
	}
	for state, part := range apart {
		if group := groups[state]; sizes[part] > sizes[most[group]] {
			most[group] = part
		}
	}
	look := make([]bool, len(apart))
	for state, part := range apart {
		if part != most[groups[state]] {
			for _, other := range from[state] {
				look[other] = true
			}
		}
	}
	return look
}
