package tests

import (
	"iter"
	"slices"

	"loop.example/osier/impl"
)

// areSides tells of any numbers whether they are sides of the net, by the document's words.
func (g grid) areSides(sides []int) bool {
	if len(sides) != g.knots {
		return false
	}
	for a, side := range sides {
		if side != 0 && side != 1 {
			return false
		}
		for b, other := range sides {
			if g.has(a, b) && side == other {
				return false
			}
		}
	}
	return true
}

// allSides is all rows of so many numbers that are 0 or 1.
func allSides(knots int) iter.Seq[[]int] {
	return func(yield func([]int) bool) {
		for chosen := range 1 << knots {
			sides := make([]int, knots)
			for k := range sides {
				sides[k] = chosen >> k & 1
			}
			if !yield(sides) {
				return
			}
		}
	}
}

// sides is, of all rows of 0 and 1, the one that is sides of the net with 0 of the least knot of each part; and whether there is one.
func (g grid) sides() ([]int, bool) {
	parts := g.parts()
	for sides := range allSides(g.knots) {
		isOther := func(least int) bool { return sides[least] != 0 }
		if g.areSides(sides) && !slices.ContainsFunc(parts, isOther) {
			return sides, true
		}
	}
	return nil, false
}

// wayBy is the way between two knots of one part of a tree, which has but one.
func (g grid) wayBy(a, b int) []int {
	return g.endings([]int{a}, []int{b})[0]
}

// oddRing is what SideOdd tells: a knot is of side 0 just if the tree's way from the least knot of its part has an even number of ties.
func (g grid) oddRing() ([]int, bool) {
	ties, parts := g.net().Ties, g.parts()
	tree := g.by(g.treeBy(ties))
	side := func(k int) int { return len(wayTies(tree.wayBy(parts[k], k))) % 2 }
	for _, tie := range ties {
		if side(tie.A) == side(tie.B) {
			return tree.wayBy(tie.B, tie.A), true
		}
	}
	return nil, false
}

// isOddRing tells of any row whether it is a ring of the net, of an odd number of ties, by the document's words.
func (g grid) isOddRing(row []int) bool {
	return len(row) >= 3 && len(row)%2 == 1 && g.isWay(row) && g.has(row[0], row[len(row)-1])
}

// flipped is sides turned about: 1 for 0, and 0 for 1, of those knots that are chosen.
func flipped(sides []int, chosen func(k int) bool) []int {
	out := slices.Clone(sides)
	for k := range out {
		if chosen(k) {
			out[k] = 1 - out[k]
		}
	}
	return out
}

// allFlipped is sides turned about of all knots.
func allFlipped(sides []int) []int {
	return flipped(sides, func(int) bool { return true })
}

// sideShapes is nets that have two sides, or just not: rings of each size, several parts of which some have an odd ring, and several odd rings.
func sideShapes() []grid {
	eight := grid{knots: impl.NetKnots}
	return []grid{
		{knots: 4, tied: eight.ringed(0, 1, 2, 3).tied},
		{knots: 5, tied: eight.ringed(0, 1, 2, 3, 4).tied},
		{knots: 6, tied: eight.ringed(0, 1, 2, 3, 4, 5).tied},
		{knots: 7, tied: eight.ringed(0, 1, 2, 3, 4, 5, 6).tied},
		eight.ringed(0, 1, 2, 3, 4, 5, 6, 7),
		{knots: 7, tied: eight.ringed(0, 1, 2, 3).ringed(4, 5, 6).tied},
		eight.ringed(0, 1, 2).ringed(3, 4, 5, 6),
		eight.ringed(0, 1, 2).ringed(3, 4, 5, 6, 7),
		eight.ringed(0, 1, 2, 3).ringed(4, 5, 6, 7),
		eight.ringed(0, 1, 2, 3).lined(4, 5, 6).lined(4, 7),
		eight.ringed(0, 1, 2, 3).ringed(2, 3, 4, 5).lined(4, 6, 7, 5),
		{knots: 7, tied: eight.ringed(0, 1, 2, 3).ringed(3, 4, 5, 6).tied},
		eight.ringed(0, 1, 2, 3).ringed(3, 4, 5, 6).ringed(5, 6, 7),
		laterRingWithEarlierTie(),
		eight.ringed(0, 1, 2, 3).ringed(4, 5, 6, 7).lined(0, 4).lined(1, 5).lined(2, 6).lined(3, 7),
		eight.ringed(0, 1, 2, 3).ringed(4, 5, 6, 7).lined(0, 4).lined(1, 5).lined(2, 6).lined(3, 7).lined(0, 6),
		sidesFilled(4),
		sidesFilled(3),
		sidesFilled(1),
		sidesFilled(3).set(1, 2, true),
		eight.lined(0, 7, 1, 6, 2, 5, 3, 4),
	}
}

// laterRingWithEarlierTie is a net of two parts, each an odd ring, of which that of the later part has the first tie between two of one side.
func laterRingWithEarlierTie() grid {
	return grid{knots: impl.NetKnots}.ringed(0, 4, 6, 5, 7).ringed(1, 2, 3)
}

// sidesFilled is all pairs tied of one of the first knots and one of the others.
func sidesFilled(first int) grid {
	g := grid{knots: impl.NetKnots}
	for a := range first {
		for b := first; b < g.knots; b++ {
			g = g.set(a, b, true)
		}
	}
	return g
}

// sided is a net that has two sides, of ties between these alone.
func sided(r *numbers) grid {
	g := grid{knots: 4 + r.below(impl.NetKnots-3)}
	sides, often := r.next(), 1+r.below(4)
	for _, tie := range pairsOf(g.knots) {
		isAcross := sides>>tie.A&1 != sides>>tie.B&1
		g = g.set(tie.A, tie.B, isAcross && r.below(5) < often)
	}
	return g
}

// sideGrids is earGrids, sideShapes with their knots named in many ways, and nets that have two sides, each with and without a tie more.
func sideGrids() iter.Seq[grid] {
	return func(yield func(grid) bool) {
		for g := range earGrids() {
			if !yield(g) {
				return
			}
		}
		r := numbers(23)
		for _, g := range sideShapes() {
			if !yield(g) {
				return
			}
			for range 8 {
				if !yield(g.renamed(shuffled(knotsOf(g.knots), &r))) {
					return
				}
			}
		}
		for range 300 {
			g := sided(&r)
			tie := shuffled(pairsOf(g.knots), &r)[0]
			if !yield(g) || !yield(g.set(tie.A, tie.B, true)) {
				return
			}
		}
	}
}

// badSideNets is nets that are not ok, each of which would have two sides, or an odd ring, if its fault were passed over; and badTwoNets.
func badSideNets() []badNet {
	line, ring := tiesOf(0, 1, 1, 2), tiesOf(0, 1, 0, 2, 1, 2)
	return append(badTwoNets(),
		badNet{"knots below 0, and as many as no sides less one", impl.Net{Knots: -1}},
		badNet{"knots, one too many, none tied", impl.Net{Knots: impl.NetKnots + 1}},
		badNet{"knots, two too many, none tied", impl.Net{Knots: impl.NetKnots + 2}},
		badNet{"a line with a knot too few", impl.Net{Knots: 2, Ties: line}},
		badNet{"a line with no knots", impl.Net{Ties: line}},
		badNet{"a line with a tie turned about", impl.Net{Knots: 3, Ties: tiesOf(0, 1, 2, 1)}},
		badNet{"a line and a tie to a knot below 0", impl.Net{Knots: 3, Ties: tiesOf(-1, 0, 0, 1, 1, 2)}},
		badNet{"a line and a tie past the end", impl.Net{Knots: 3, Ties: tiesOf(0, 1, 1, 2, 2, 3)}},
		badNet{"a line and a tie far past the end", impl.Net{Knots: 3, Ties: tiesOf(0, 1, 1, 2, 2, 1<<40)}},
		badNet{"a line and a knot to itself", impl.Net{Knots: 3, Ties: tiesOf(0, 1, 1, 2, 2, 2)}},
		badNet{"a ring of three with a knot too few", impl.Net{Knots: 2, Ties: ring}},
		badNet{"a ring of three with no knots", impl.Net{Ties: ring}},
		badNet{"a ring of three with knots below 0", impl.Net{Knots: -3, Ties: ring}},
		badNet{"a ring of three with one knot too many", impl.Net{Knots: impl.NetKnots + 1, Ties: ring}},
		badNet{"a ring of three out of order", impl.Net{Knots: 3, Ties: tiesOf(0, 1, 1, 2, 0, 2)}},
		badNet{"a ring of three with a tie turned about", impl.Net{Knots: 3, Ties: tiesOf(0, 1, 1, 2, 2, 0)}},
		badNet{"a ring of three with a tie twice", impl.Net{Knots: 3, Ties: tiesOf(0, 1, 0, 2, 1, 2, 1, 2)}},
		badNet{"a ring of three, and a tie past the end", impl.Net{Knots: 3, Ties: tiesOf(0, 1, 0, 2, 1, 2, 2, 3)}},
		badNet{"all pairs, with one knot too many", impl.Net{Knots: impl.NetKnots + 1, Ties: fullNet().Ties}},
		badNet{"all pairs, with one knot too few", impl.Net{Knots: impl.NetKnots - 1, Ties: fullNet().Ties}},
	)
}
