package tests

import (
	"iter"
	"slices"

	"loop.example/osier/impl"
)

// bridges is all ties without which there is one part more, by the document's words.
func (g grid) bridges() []impl.Tie {
	var out []impl.Tie
	for _, tie := range g.net().Ties {
		if g.set(tie.A, tie.B, false).partCount() == g.partCount()+1 {
			out = append(out, tie)
		}
	}
	return out
}

// isBridge says whether two numbers are knots that are tied by a bridge.
func (g grid) isBridge(a, b int) bool {
	return g.has(a, b) && slices.Contains(g.bridges(), tieOf(a, b))
}

// bridgeParts is the parts of the net without any bridge.
func (g grid) bridgeParts() []int {
	for _, tie := range g.bridges() {
		g = g.set(tie.A, tie.B, false)
	}
	return g.parts()
}

// onePart says whether two numbers are knots of one part.
func (g grid) onePart(a, b int) bool {
	return g.isKnot(a) && g.isKnot(b) && g.parts()[a] == g.parts()[b]
}

// apart is the first bridge without which two knots of one part are of two; and whether there is one.
func (g grid) apart(a, b int) (impl.Tie, bool) {
	if !g.onePart(a, b) {
		return impl.Tie{}, false
	}
	for _, tie := range g.bridges() {
		if !g.set(tie.A, tie.B, false).onePart(a, b) {
			return tie, true
		}
	}
	return impl.Tie{}, false
}

// renamed is the net with its knots named otherwise: each is that which stands at its place.
func (g grid) renamed(names []int) grid {
	out := grid{knots: g.knots}
	for _, tie := range g.net().Ties {
		out = out.set(names[tie.A], names[tie.B], true)
	}
	return out
}

// knotsOf is so many knots, in order.
func knotsOf(knots int) []int {
	out := make([]int, knots)
	for k := range out {
		out[k] = k
	}
	return out
}

// ringed is the grid with one more ring, through these knots, one by one.
func (g grid) ringed(knots ...int) grid {
	for i, k := range knots {
		g = g.set(k, knots[(i+1)%len(knots)], true)
	}
	return g
}

// lined is the grid with one more line of ties, through these knots, one by one.
func (g grid) lined(knots ...int) grid {
	for i := 1; i < len(knots); i++ {
		g = g.set(knots[i-1], knots[i], true)
	}
	return g
}

// shapes is nets of which some parts have bridges, and some none: rings on lines, lines on rings, rings on rings, and several such side by side.
func shapes() []grid {
	eight := grid{knots: impl.NetKnots}
	return []grid{
		eight.lined(knotsOf(impl.NetKnots)...),
		eight.ringed(knotsOf(impl.NetKnots)...),
		eight.ringed(0, 1, 2).lined(2, 3).ringed(3, 4, 5).lined(6, 7),
		eight.ringed(0, 1, 2).ringed(3, 4, 5).lined(6, 7),
		eight.ringed(0, 1, 2, 3).ringed(4, 5, 6, 7),
		eight.ringed(0, 1, 2, 3).lined(4, 5, 6, 7),
		eight.ringed(0, 1, 2).ringed(2, 3, 4).ringed(4, 5, 6),
		eight.ringed(0, 1, 2).lined(2, 3, 4, 5).ringed(5, 6, 7),
		eight.lined(0, 1).ringed(1, 2, 3).lined(3, 4).ringed(4, 5, 6).lined(6, 7),
		eight.lined(0, 1, 2).lined(1, 3).ringed(4, 5, 6, 7).lined(4, 6),
		eight.ringed(0, 1, 2, 3, 4).lined(0, 5).lined(2, 6).lined(4, 7),
		eight.ringed(2, 3, 4).lined(0, 2, 5, 6).lined(1, 7),
		eight.lined(0, 1).lined(2, 3).lined(4, 5).lined(6, 7),
		eight.ringed(0, 1, 2, 3, 4).lined(0, 2).lined(1, 4).lined(5, 6),
		{knots: 7, tied: eight.ringed(0, 1, 2, 3).ringed(0, 4, 5, 6).tied},
		{knots: 5, tied: eight.ringed(0, 1, 2).lined(3, 4).tied},
	}
}

// bridgeGrids is every net of at most five knots, grids, and shapes and nets of few ties with their knots named in many ways.
func bridgeGrids() iter.Seq[grid] {
	return func(yield func(grid) bool) {
		for g := range allGrids(5) {
			if !yield(g) {
				return
			}
		}
		for g := range grids() {
			if !yield(g) {
				return
			}
		}
		r := numbers(6)
		for _, g := range shapes() {
			if !yield(g) {
				return
			}
			for range 8 {
				if !yield(g.renamed(shuffled(knotsOf(g.knots), &r))) {
					return
				}
			}
		}
		for range 200 {
			knots := 6 + r.below(impl.NetKnots-5)
			ties := shuffled(pairsOf(knots), &r)
			if !yield(grid{knots: knots}.by(ties[:r.below(knots+3)])) {
				return
			}
		}
	}
}

// treesOf is trees of a net: all, if it has at most four knots, else some, each of ties that come in an order of its own.
func (g grid) treesOf(r *numbers) [][]impl.Tie {
	var out [][]impl.Tie
	ties := g.net().Ties
	if g.knots > 4 {
		for range 6 {
			out = append(out, g.treeBy(shuffled(ties, r)))
		}
		return out
	}
	for list := range subsets(ties) {
		if g.isTree(list) {
			out = append(out, list)
		}
	}
	return out
}

// isInRing says whether a tie is in a ring, by all ways between its ends: one of three knots or more closes one.
func isInRing(ways *between, tie impl.Tie) bool {
	return slices.ContainsFunc(ways[tie.A][tie.B], func(way []int) bool { return len(way) >= 3 })
}

// ringTies is the ties of a ring that is told as a way.
func ringTies(ring []int) []impl.Tie {
	var out []impl.Tie
	for i, k := range ring {
		out = append(out, tieOf(k, ring[(i+1)%len(ring)]))
	}
	return out
}

// countOf is how many different numbers there are.
func countOf(list []int) int {
	out := slices.Clone(list)
	slices.Sort(out)
	return len(slices.Compact(out))
}
