package subsets

import (
	"cmp"
	"slices"

	"harbinger/api"
	"harbinger/nfas"
	"harbinger/ranges"
)

const most = 1 << 20 // states times ranges

// net has what a table's rows are made of: the places, and behind them all one more, at which no rune may stand, and that alone is open at the beginning.
type net struct {
	columns []api.Range // the table's ranges, each its own column
	groups  [][]mask    // places that have the same Set
	turns   [][]int     // of each range, and behind them: the groups whose Set begins, or ceases, to hold what is there
	follow  [][]mask    // of each place
	ends    []int       // of each place: the token that ends there; -1: none
}

func newNet(a nfas.Auto) *net {
	n := &net{}
	for _, p := range a.Places {
		end := -1
		if p.Last {
			end = p.Kind
		}
		n.ends = append(n.ends, end)
		n.follow = append(n.follow, masks(p.Follow))
	}
	n.ends = append(n.ends, -1)
	n.follow = append(n.follow, masks(a.First))
	sets := n.group(a.Places)
	n.columns = ranges.Split(sets...)
	n.turns = make([][]int, len(n.columns)+1)
	for group, set := range sets {
		n.turn(group, set)
	}
	return n
}

// group puts places together whose Sets are written alike, and tells each such Set once: places of one fragment are many, and each may have many ranges.
func (n *net) group(places []nfas.Place) (sets [][]api.Range) {
	var (
		groups = map[string]int{}
		of     [][]int
		text   []byte
	)
	for i, p := range places {
		text = written(text[:0], p.Set)
		group, ok := groups[string(text)]
		if !ok {
			group = len(sets)
			groups[string(text)] = group
			sets, of = append(sets, p.Set), append(of, nil)
		}
		of[group] = append(of[group], i)
	}
	for _, l := range of {
		n.groups = append(n.groups, masks(l))
	}
	return sets
}

// written adds to a text all that a Set has.
func written(text []byte, set []api.Range) []byte {
	for _, r := range set {
		for _, end := range [...]uint32{uint32(r.Low), uint32(r.High)} {
			text = append(text, byte(end), byte(end>>8), byte(end>>16), byte(end>>24))
		}
	}
	return text
}

// turn notes where a group's Set begins, and ceases, to hold something. Where a neat one does, one of the ranges begins, or ends.
func (n *net) turn(group int, set []api.Range) {
	for _, r := range ranges.Neat(set) {
		first, _ := slices.BinarySearchFunc(n.columns, r.Low, func(x api.Range, low rune) int { return cmp.Compare(x.Low, low) })
		last, _ := slices.BinarySearchFunc(n.columns, r.High, func(x api.Range, high rune) int { return cmp.Compare(x.High, high) })
		for _, at := range [...]int{first, last + 1} {
			n.turns[at] = append(n.turns[at], group)
		}
	}
}

// table is made state by state, each as it was found.
func (n *net) table() (Table, api.Errno) {
	var (
		states = newNames(n.size(), n.states())
		number = states.number
		t      = Table{Ranges: n.columns}
	)
	_, ok := number(n.beginning())
	for at := 0; ok && at < len(states.open); at++ {
		var row []int
		row, ok = n.row(n.ahead(states.open[at]), number)
		t.Next = append(t.Next, row)
		t.Ends = append(t.Ends, n.end(states.open[at]))
	}
	if !ok {
		return Table{}, api.ErrLimit
	}
	for column := range n.columns {
		t.Class = append(t.Class, column)
	}
	t.Class, t.Next, t.Ends = slices.Clip(t.Class), slices.Clip(t.Next), slices.Clip(t.Ends)
	return t, api.OK
}

// size of a set of places, in bytes.
func (n *net) size() int {
	return (len(n.follow)-1)/eight + 1
}

// states that there may be.
func (n *net) states() int {
	return min(api.MaxStates, most/max(1, len(n.columns)))
}

// beginning is what is open behind no rune.
func (n *net) beginning() []byte {
	set, last := make([]byte, n.size()), len(n.follow)-1
	set[last/eight] = 1 << (last % eight)
	return set
}

// ahead are the places that follow those that are open.
func (n *net) ahead(open string) []byte {
	set := make([]byte, n.size())
	for p := range in(open) {
		for _, m := range n.follow[p] {
			set[m.at] |= m.bits
		}
	}
	return set
}

// end is the least token that ends at one of the places that are open.
func (n *net) end(open string) int {
	least := -1
	for p := range in(open) {
		if kind := n.ends[p]; kind >= 0 && (least < 0 || kind < least) {
			least = kind
		}
	}
	return least
}

// row tells by each range where those places lead that are ahead. From range to range only those of groups that turn are opened, or closed.
func (n *net) row(ahead []byte, number func(open []byte) (int, bool)) (row []int, ok bool) {
	open, next := make([]byte, n.size()), -1
	row = make([]int, len(n.columns))
	for column := range row {
		if n.turned(open, ahead, column) {
			if next, ok = number(open); !ok {
				return nil, false
			}
		}
		row[column] = next
	}
	return row, true
}

// turned makes what is open at the range ahead what is open at this one, and tells whether it was touched.
func (n *net) turned(open, ahead []byte, column int) (some bool) {
	for _, group := range n.turns[column] {
		for _, m := range n.groups[group] {
			if b := m.bits & ahead[m.at]; b != 0 {
				open[m.at] ^= b
				some = true
			}
		}
	}
	return some
}
