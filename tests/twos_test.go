package tests

import (
	"iter"
	"slices"

	"loop.example/osier/impl"
)

// areApart tells of two ways from a to b whether they are apart, by the document's words.
func areApart(a, b int, x, y []int) bool {
	for _, k := range common(x, y) {
		if k != a && k != b {
			return false
		}
	}
	tie := []int{a, b}
	return !(slices.Equal(x, tie) && slices.Equal(y, tie))
}

// isTwo tells of any two rows whether they are two ways from a to b that are apart.
func (g grid) isTwo(a, b int, x, y []int) bool {
	for _, row := range [][]int{x, y} {
		if !g.isWay(row) || row[0] != a || row[len(row)-1] != b {
			return false
		}
	}
	return a != b && areApart(a, b, x, y)
}

// twoOf is, of all ways from a to b, in order, the first that has one beside it, and the first of those.
func twoOf(a, b int, ways [][]int) ([]int, []int, bool) {
	if a == b {
		return nil, nil, false
	}
	for _, x := range ways {
		for _, y := range ways {
			if areApart(a, b, x, y) {
				return x, y, true
			}
		}
	}
	return nil, nil, false
}

// parter is the least knot without whose ties two others, of one part and not tied, are of two; and whether there is one.
func (g grid) parter(a, b int) (int, bool) {
	if a == b || !g.onePart(a, b) || g.has(a, b) {
		return 0, false
	}
	for k := range g.knots {
		if k != a && k != b && !g.without(k).onePart(a, b) {
			return k, true
		}
	}
	return 0, false
}

// isOnAll says whether a knot is on each of these ways.
func isOnAll(ways [][]int, k int) bool {
	for _, way := range ways {
		if !slices.Contains(way, k) {
			return false
		}
	}
	return true
}

// apartPairs is all two ways of these, which lead from a to b, that are apart, in either order.
func apartPairs(a, b int, ways [][]int) iter.Seq2[[]int, []int] {
	return func(yield func([]int, []int) bool) {
		for _, x := range ways {
			for _, y := range ways {
				if a != b && areApart(a, b, x, y) && !yield(x, y) {
					return
				}
			}
		}
	}
}

// wayTies is the ties of a way.
func wayTies(way []int) []impl.Tie {
	var out []impl.Tie
	for i := 1; i < len(way); i++ {
		out = append(out, tieOf(way[i-1], way[i]))
	}
	return out
}

// twoShapes is nets in which the first way between some two knots is not one of those that are told, or not with the one that is shortest together with another.
func twoShapes() []grid {
	eight := grid{knots: impl.NetKnots}
	return []grid{
		shortAlone(),
		{knots: 6, tied: eight.lined(0, 1, 2, 5).lined(0, 3, 2).lined(1, 4, 5).tied},
		shortTogether(),
		eight.lined(0, 5, 6).lined(0, 4, 3, 6).lined(0, 1, 2, 7, 6),
		eight.lined(0, 1, 2, 3, 7).lined(0, 4, 2).lined(1, 5, 7).lined(4, 6, 3),
		eight.lined(0, 1, 2, 3, 4, 7).lined(0, 5, 3).lined(2, 6, 7),
		eight.lined(0, 1, 2, 3, 7).lined(0, 4, 3).lined(1, 5, 6, 7),
		eight.ringed(0, 1, 2, 3).ringed(4, 5, 6, 7).lined(0, 4).lined(1, 5).lined(2, 6).lined(3, 7),
		eight.ringed(0, 1, 2, 3, 4, 5, 6, 7).lined(0, 4).lined(1, 5).lined(2, 6).lined(3, 7),
		eight.ringed(0, 1, 2, 3, 4, 5, 6).lined(7, 0).lined(7, 2).lined(7, 4),
		eight.ringed(0, 1, 5).ringed(5, 6, 3).ringed(3, 2, 4),
		{knots: 7, tied: eight.lined(0, 2, 1).lined(0, 3, 1).lined(0, 4, 1).lined(0, 5, 1).lined(0, 6, 1).tied},
	}
}

// shortAlone is a net whose shortest way from 0 to 7 has none beside it, while longer ones have.
func shortAlone() grid {
	return grid{knots: impl.NetKnots}.lined(0, 1, 2, 7).lined(0, 3, 5, 2).lined(1, 4, 6, 7)
}

// shortTogether is a net whose first way from 0 to 7 has but a long one beside it, while two others that are apart are shorter together.
func shortTogether() grid {
	return grid{knots: impl.NetKnots}.lined(0, 1, 2, 7).lined(0, 3, 4, 5, 6, 7).lined(1, 6).lined(3, 2)
}

// twoGrids is blockGrids, and twoShapes with their knots named in many ways.
func twoGrids() iter.Seq[grid] {
	return func(yield func(grid) bool) {
		for g := range blockGrids() {
			if !yield(g) {
				return
			}
		}
		r := numbers(13)
		for _, g := range twoShapes() {
			if !yield(g) {
				return
			}
			for range 8 {
				if !yield(g.renamed(shuffled(knotsOf(g.knots), &r))) {
					return
				}
			}
		}
	}
}

// fewWays says whether a net has so few ways between any two knots that all two of them may be held against each other.
func (g grid) fewWays() bool {
	return g.knots <= 5 || len(g.net().Ties) <= g.knots+4
}

// pairsEitherWay is all two knots of so many that are not the same, either way.
func pairsEitherWay(knots int) iter.Seq2[int, int] {
	return func(yield func(int, int) bool) {
		for a := range knots {
			for b := range knots {
				if a != b && !yield(a, b) {
					return
				}
			}
		}
	}
}

// badTwoNets is nets that are not ok, each of which would have two ways that are apart from 0 to 2 if its fault were passed over; and badNets.
func badTwoNets() []badNet {
	ring := tiesOf(0, 1, 0, 3, 1, 2, 2, 3)
	return append(badNets(),
		badNet{"a ring with too few knots", impl.Net{Knots: 3, Ties: ring}},
		badNet{"a ring with no knots", impl.Net{Ties: ring}},
		badNet{"a ring with knots below 0", impl.Net{Knots: -1, Ties: ring}},
		badNet{"a ring with one knot too many", impl.Net{Knots: impl.NetKnots + 1, Ties: ring}},
		badNet{"a ring out of order", impl.Net{Knots: 4, Ties: tiesOf(0, 1, 1, 2, 2, 3, 0, 3)}},
		badNet{"a ring with a tie twice", impl.Net{Knots: 4, Ties: tiesOf(0, 1, 0, 3, 1, 2, 1, 2, 2, 3)}},
		badNet{"a ring with a tie turned about", impl.Net{Knots: 4, Ties: tiesOf(0, 1, 1, 2, 2, 3, 3, 0)}},
		badNet{"a ring and a knot to itself", impl.Net{Knots: 4, Ties: tiesOf(0, 0, 0, 1, 0, 3, 1, 2, 2, 3)}},
		badNet{"a ring and a tie to no knot", impl.Net{Knots: 4, Ties: tiesOf(0, 1, 0, 3, 1, 2, 2, 3, 3, 4)}},
		badNet{"a line with one knot too many", impl.Net{Knots: impl.NetKnots + 1, Ties: tiesOf(0, 1, 1, 2)}},
		badNet{"a line out of order", impl.Net{Knots: 3, Ties: tiesOf(1, 2, 0, 1)}},
		badNet{"a line with a tie twice", impl.Net{Knots: 3, Ties: tiesOf(0, 1, 1, 2, 1, 2)}},
	)
}
