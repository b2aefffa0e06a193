package nfas

import (
	"iter"
	"math/bits"
	"slices"

	"harbinger/api"
)

const word = 64 // bits

// places are some of those that there are: of each one a bit.
type places [api.MaxStates / word]uint64

func (s *places) add(place int) {
	s[place/word] |= 1 << (place % word)
}

func (s *places) join(t *places) {
	for i, w := range t {
		s[i] |= w
	}
}

// all goes through them, rising.
func (s *places) all() iter.Seq[int] {
	return func(yield func(int) bool) {
		for i, w := range s {
			for ; w != 0; w &= w - 1 {
				if !yield(i*word + bits.TrailingZeros64(w)) {
					return
				}
			}
		}
	}
}

// list has them without any room behind; of none there is no list.
func (s *places) list() []int {
	return slices.Clip(slices.Collect(s.all()))
}
