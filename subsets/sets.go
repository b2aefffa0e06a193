package subsets

import (
	"iter"
	"math/bits"
)

const eight = 8 // places of a set that stand in one byte: as text, the set is a key

// mask is of places that stand in one byte of a set.
type mask struct {
	at   int
	bits byte
}

// masks of places that rise.
func masks(places []int) []mask {
	var l []mask
	for _, p := range places {
		at, bit := p/eight, byte(1)<<(p%eight)
		if last := len(l) - 1; last >= 0 && l[last].at == at {
			l[last].bits |= bit
		} else {
			l = append(l, mask{at, bit})
		}
	}
	return l
}

// in goes through the places of a set, rising.
func in(set string) iter.Seq[int] {
	return func(yield func(int) bool) {
		for i := range len(set) {
			for b := set[i]; b != 0; b &= b - 1 {
				if !yield(i*eight + bits.TrailingZeros8(b)) {
					return
				}
			}
		}
	}
}

// names tells states' numbers by what is open there.
type names struct {
	numbers map[string]int
	open    []string // of each state
	most    int      // states that there may be
}

func newNames(size, most int) *names {
	nothing := string(make([]byte, size))
	return &names{numbers: map[string]int{nothing: -1}, most: most}
}

// number of the state where so much is open, which is a new one, if there was none yet; -1, where nothing is. Not ok: it would be one too many.
func (n *names) number(open []byte) (state int, ok bool) {
	if state, ok = n.numbers[string(open)]; ok {
		return state, true
	}
	state = len(n.open)
	if state == n.most {
		return 0, false
	}
	text := string(open)
	n.numbers[text] = state
	n.open = append(n.open, text)
	return state, true
}
