package tests

import (
	"iter"
	"math/bits"
	"slices"

	"loop.example/osier/impl"
)

// shareKnot says whether two ties have a knot in common.
func shareKnot(x, y impl.Tie) bool {
	return x.A == y.A || x.A == y.B || x.B == y.A || x.B == y.B
}

// arePairs tells of any ties whether they are pairs of the net, by the document's words.
func (g grid) arePairs(list []impl.Tie) bool {
	for i, tie := range list {
		for _, other := range list[:i] {
			if shareKnot(tie, other) {
				return false
			}
		}
	}
	return g.inOrder(list)
}

// pairLists is all pairs of a net, in order, the first tie compared first.
func (g grid) pairLists() [][]impl.Tie {
	return pairsBehind(nil, g.net().Ties)
}

// pairsBehind is all pairs that begin with these, and go on with ties that share no knot with them.
func pairsBehind(list, ties []impl.Tie) [][]impl.Tie {
	out := [][]impl.Tie{list}
	for i, tie := range ties {
		var rest []impl.Tie
		for _, other := range ties[i+1:] {
			if !shareKnot(tie, other) {
				rest = append(rest, other)
			}
		}
		out = append(out, pairsBehind(append(slices.Clone(list), tie), rest)...)
	}
	return out
}

// firstOfMost is, of lists that stand in order, the first of the longest.
func firstOfMost(lists [][]impl.Tie) []impl.Tie {
	var best []impl.Tie
	for _, list := range lists {
		if len(list) > len(best) {
			best = list
		}
	}
	return best
}

// greedyPairs is what one gets who takes each tie that shares no knot with those taken ahead.
func greedyPairs(ties []impl.Tie) []impl.Tie {
	var list []impl.Tie
	for _, tie := range ties {
		shares := func(other impl.Tie) bool { return shareKnot(tie, other) }
		if !slices.ContainsFunc(list, shares) {
			list = append(list, tie)
		}
	}
	return list
}

// knotsOfBits is the knots whose bits are set, ascending.
func knotsOfBits(set int) []int {
	var out []int
	for k := range impl.NetKnots {
		if set>>k&1 != 0 {
			out = append(out, k)
		}
	}
	return out
}

// bitsOfKnots is 2 to the power of each, together.
func bitsOfKnots(knots []int) int {
	out := 0
	for _, k := range knots {
		out += 1 << k
	}
	return out
}

// oddPartsWithout is how many parts of the other knots have an odd number of them, without these and their ties.
func (g grid) oddPartsWithout(knots []int) int {
	for _, k := range knots {
		g = g.without(k)
	}
	sizes := map[int]int{}
	for k, least := range g.parts() {
		if !slices.Contains(knots, k) {
			sizes[least]++
		}
	}
	out := 0
	for _, size := range sizes {
		out += size % 2
	}
	return out
}

// atMost is twice as many pairs as there could be at most, as far as this set of knots tells.
func (g grid) atMost(set int) int {
	return g.knots + bits.OnesCount(uint(set)) - g.oddPartsWithout(knotsOfBits(set))
}

// whys is all sets of knots, ascending by their bits, that show that there are not more than so many pairs.
func (g grid) whys(size int) iter.Seq[int] {
	return func(yield func(int) bool) {
		for set := range 1 << g.knots {
			if g.atMost(set) == 2*size && !yield(set) {
				return
			}
		}
	}
}

// firstWhy is the first of these; -1, if there is none.
func (g grid) firstWhy(size int) int {
	for set := range g.whys(size) {
		return set
	}
	return -1
}

// pairShapes is nets whose pairs are hard to find: odd rings that hang from rows, that share knots, and that lie within odd rings, and knots from which many hang.
func pairShapes() []grid {
	eight := grid{knots: impl.NetKnots}
	seven := grid{knots: impl.NetKnots - 1}
	return []grid{
		eight.lined(0, 1, 2, 3, 4, 5).ringed(5, 6, 7),
		eight.lined(0, 1, 2, 3).ringed(3, 4, 5, 6, 7),
		eight.lined(0, 1).ringed(1, 2, 3, 4, 5, 6).lined(2, 7),
		seven.lined(0, 1, 2, 3, 4).ringed(4, 5, 6),
		eight.ringed(0, 1, 2).lined(2, 3, 4, 5).ringed(5, 6, 7),
		eight.ringed(0, 1, 2).lined(2, 3).lined(4, 5).ringed(5, 6, 7),
		seven.ringed(0, 1, 2).lined(2, 3, 4).ringed(4, 5, 6),
		seven.ringed(0, 1, 2).lined(1, 3).lined(2, 4).lined(0, 5, 6),
		ringsWithinRings(),
		ringsWithinRings().lined(0, 5),
		oneOrTwoShow(),
		{knots: 6, tied: eight.lined(0, 1, 2).lined(3, 4, 5).lined(1, 4).tied},
		eight.ringed(0, 1, 2).lined(0, 3).lined(1, 4).lined(2, 5).lined(6, 7),
		eight.ringed(0, 1, 2, 3, 4).lined(0, 5).lined(2, 6).lined(3, 7),
		eight.ringed(0, 1, 2, 3, 4).ringed(2, 3, 5).ringed(5, 6, 7),
		eight.ringed(0, 1, 2, 3, 4, 5, 6).lined(0, 3).lined(1, 5).lined(4, 7),
		eight.lined(0, 3).lined(0, 4).lined(0, 5).lined(1, 5).lined(1, 6).lined(2, 6).lined(2, 7),
		eight.lined(0, 2).lined(0, 3).lined(0, 4).lined(1, 5).lined(1, 6).lined(1, 7).lined(0, 1),
		eight.lined(0, 1, 2).lined(0, 3, 4).lined(0, 5, 6).lined(0, 7),
		eight.lined(0, 1).ringed(2, 3, 4).ringed(5, 6, 7),
		eight.ringed(0, 1, 2).ringed(3, 4, 5),
		seven.lined(0, 1, 2).lined(3, 4, 5),
		seven.ringed(0, 1, 2).ringed(0, 3, 4).ringed(0, 5, 6),
		eight.ringed(1, 2, 3).ringed(4, 5, 6).lined(0, 1).lined(0, 4).lined(0, 7),
		seven.lined(0, 1).ringed(1, 2, 3).ringed(1, 4, 5).lined(1, 6),
		eight.filled(0, 1, 2, 3, 4).filled(5, 6, 7),
		eight.filled(0, 1, 2, 3, 4).filled(4, 5, 6, 7),
		seven.filled(0, 1, 2).filled(2, 3, 4).filled(4, 5, 6),
		sidesFilled(3),
		sidesFilled(2).lined(0, 1),
		sidesFilled(3).lined(0, 1).lined(3, 4),
	}
}

// ringsWithinRings is a net of three odd rings, each but the first through the one ahead as if that were one knot, and one knot that hangs from the last.
func ringsWithinRings() grid {
	return grid{knots: impl.NetKnots}.ringed(0, 1, 2).lined(1, 3, 4, 2).lined(3, 5, 6, 4).lined(6, 7)
}

// oneOrTwoShow is a net of which the knot 2 alone shows how many pairs there are at most, and the knots 0 and 1 together, but neither of these alone.
func oneOrTwoShow() grid {
	g := grid{knots: impl.NetKnots}.lined(6, 2, 7)
	for _, k := range []int{2, 3, 4, 5} {
		g = g.lined(0, k, 1)
	}
	return g
}

// manyOddRings is a net of odd rings, each of which shares a knot with those ahead, or hangs from one by a tie, and some ties more.
func manyOddRings(r *numbers) grid {
	g := grid{knots: 5 + r.below(impl.NetKnots-4)}
	names := shuffled(knotsOf(g.knots), r)
	there := 3
	g = g.ringed(names[:there]...)
	for there < g.knots {
		size := min(1+r.below(4), g.knots-there)
		more := names[there : there+size]
		from := names[r.below(there)]
		switch {
		case size%2 == 0:
			g = g.ringed(append(slices.Clone(more), from)...)
		case size == 1:
			g = g.lined(from, more[0])
		default:
			g = g.ringed(more...).lined(from, more[0])
		}
		there += size
	}
	for range r.below(3) {
		tie := shuffled(pairsOf(g.knots), r)[0]
		g = g.set(tie.A, tie.B, true)
	}
	return g
}

// pairGrids is sideGrids, pairShapes with their knots named in many ways, and nets of many odd rings.
func pairGrids() iter.Seq[grid] {
	return func(yield func(grid) bool) {
		for g := range sideGrids() {
			if !yield(g) {
				return
			}
		}
		r := numbers(24)
		for _, g := range pairShapes() {
			if !yield(g) {
				return
			}
			for range 8 {
				if !yield(g.renamed(shuffled(knotsOf(g.knots), &r))) {
					return
				}
			}
		}
		for range 300 {
			if !yield(manyOddRings(&r)) {
				return
			}
		}
	}
}

// badPairNets is badSideNets, and nets that are not ok, of which some have knots from which many hang.
func badPairNets() []badNet {
	return append(badSideNets(),
		badNet{"a star with one knot too many", impl.Net{Knots: impl.NetKnots + 1, Ties: sidesFilled(1).net().Ties}},
		badNet{"a star with one knot too few", impl.Net{Knots: impl.NetKnots - 1, Ties: sidesFilled(1).net().Ties}},
		badNet{"a star out of order", impl.Net{Knots: 4, Ties: tiesOf(0, 1, 0, 3, 0, 2)}},
		badNet{"a star with a tie twice", impl.Net{Knots: 4, Ties: tiesOf(0, 1, 0, 2, 0, 2, 0, 3)}},
		badNet{"two ties with one knot too few", impl.Net{Knots: 3, Ties: tiesOf(0, 1, 2, 3)}},
		badNet{"two ties, the later one turned about", impl.Net{Knots: 4, Ties: tiesOf(0, 1, 3, 2)}},
		badNet{"two ties out of order", impl.Net{Knots: 4, Ties: tiesOf(2, 3, 0, 1)}},
		badNet{"two ties, and a knot to itself", impl.Net{Knots: 5, Ties: tiesOf(0, 1, 2, 3, 4, 4)}},
	)
}
