package tests

import (
	"iter"
	"slices"

	"loop.example/osier/impl"
)

// isTrail tells of any numbers whether they are a trail of the net, by the document's words.
func (g grid) isTrail(row []int) bool {
	ties := g.net().Ties
	if len(row) != len(ties)+1 || !g.isKnot(row[0]) {
		return false
	}
	for i := 1; i < len(row); i++ {
		if !g.has(row[i-1], row[i]) {
			return false
		}
	}
	gone := wayTies(row)
	slices.SortFunc(gone, compareTies)
	return slices.Equal(gone, ties)
}

// trails is all trails that begin at a knot, in order: over each tie that is left one goes on.
func (g grid) trails(from int) iter.Seq[[]int] {
	return func(yield func([]int) bool) {
		g.trailsBehind([]int{from}, len(g.net().Ties), yield)
	}
}

// trailsBehind is false if no more are wanted.
func (g grid) trailsBehind(row []int, left int, yield func([]int) bool) bool {
	if left == 0 {
		return yield(row)
	}
	at := row[len(row)-1]
	for k := range g.knots {
		if g.has(at, k) && !g.set(at, k, false).trailsBehind(append(slices.Clone(row), k), left-1, yield) {
			return false
		}
	}
	return true
}

// fewTies says whether all rows over ties, each once, can be gone through.
func (g grid) fewTies() bool {
	return len(g.net().Ties) <= 10
}

// oddKnots is the knots that have an odd number of ties, ascending.
func (g grid) oddKnots() []int {
	var out []int
	for k := range g.knots {
		if g.tieCount(k)%2 == 1 {
			out = append(out, k)
		}
	}
	return out
}

// canTrail says whether a trail begins there, by numbers alone: all ties are of that knot's part, and no knot has an odd number of them, or two have, this one and another one.
func (g grid) canTrail(from int) bool {
	if !g.isKnot(from) {
		return false
	}
	parts := g.parts()
	for k, least := range parts {
		if g.hasTies(k) && least != parts[from] {
			return false
		}
	}
	odd := g.oddKnots()
	return len(odd) == 0 || len(odd) == 2 && slices.Contains(odd, from)
}

// nextKnots is the knots to which a row may go on so that the ties behind are a trail from there, ascending.
func (g grid) nextKnots(at int) []int {
	var out []int
	for k := range g.knots {
		if g.has(at, k) && g.set(at, k, false).canTrail(k) {
			out = append(out, k)
		}
	}
	return out
}

// trailBy is a trail from a knot at which one begins, each next knot of which is picked among those from which one can go on.
func (g grid) trailBy(from int, pick func(next []int) int) []int {
	row := []int{from}
	for next := g.nextKnots(from); len(next) > 0; next = g.nextKnots(from) {
		to := pick(next)
		g = g.set(from, to, false)
		row = append(row, to)
		from = to
	}
	return row
}

// trail is the first trail from a knot, and whether there is one.
func (g grid) trail(from int) ([]int, bool) {
	if !g.canTrail(from) {
		return nil, false
	}
	return g.trailBy(from, func(next []int) int { return next[0] }), true
}

// someTrail is any trail from a knot at which one begins.
func (g grid) someTrail(from int, r *numbers) []int {
	return g.trailBy(from, func(next []int) int { return next[r.below(len(next))] })
}

// greedyTrail is where one comes who goes to the least knot each time, over a tie that is left, for as long as there is one.
func (g grid) greedyTrail(from int) []int {
	row := []int{from}
	for next := slices.Index(g.tied[from][:], true); next >= 0; next = slices.Index(g.tied[from][:], true) {
		g = g.set(from, next, false)
		row = append(row, next)
		from = next
	}
	return row
}

// trailsOf tells nets with a trail of each: of those that have few ties all, of the others the first, and some more.
func trailsOf(grids iter.Seq[grid], seed uint64) iter.Seq2[grid, []int] {
	return func(yield func(grid, []int) bool) {
		r := numbers(seed)
		for g := range grids {
			for from := range g.knots {
				if !g.canTrail(from) {
					continue
				}
				list := [][]int{g.someTrail(from, &r), g.someTrail(from, &r)}
				if first, ok := g.trail(from); ok {
					list = append(list, first)
				}
				if g.fewTies() {
					list = slices.Collect(g.trails(from))
				}
				for _, row := range list {
					if !yield(g, row) {
						return
					}
				}
			}
		}
	}
}

// severalTrails is a net that has several trails from each knot at which one begins, and from the knot 2 none that goes to the least knot first.
func severalTrails() grid {
	return grid{knots: 7}.ringed(2, 3, 4).ringed(2, 5, 6).lined(2, 0, 1)
}

// trailShapes is nets that have trails, or just not: rings that share knots, or hang from rows, so that one can't come back from the least knot, and several parts.
func trailShapes() []grid {
	eight := grid{knots: impl.NetKnots}
	seven := grid{knots: impl.NetKnots - 1}
	return []grid{
		severalTrails(),
		eight.ringed(0, 1, 2).lined(2, 3, 4).ringed(4, 5, 6),
		eight.ringed(1, 2, 3).lined(3, 0).ringed(0, 4, 5),
		eight.ringed(2, 3, 4).lined(4, 0, 1).ringed(1, 5, 6).lined(6, 7),
		eight.lined(0, 1).ringed(1, 2, 3).lined(1, 4).ringed(4, 5, 6).lined(4, 7),
		eight.lined(7, 6).ringed(6, 5, 4).lined(6, 3).ringed(3, 2, 1).lined(3, 0),
		eight.lined(2, 0).ringed(2, 3, 4).ringed(2, 5, 6).lined(0, 1).lined(2, 7),
		eight.ringed(0, 1, 2).ringed(0, 3, 4).ringed(0, 5, 6),
		eight.ringed(7, 1, 2).ringed(7, 3, 4).ringed(7, 5, 6),
		eight.ringed(7, 1, 2).ringed(7, 3, 4).ringed(7, 5, 6).lined(7, 0),
		eight.ringed(0, 1, 2).ringed(2, 3, 4).ringed(4, 5, 6).ringed(6, 7, 0),
		eight.ringed(0, 2, 4, 6).ringed(1, 3, 5, 7).ringed(0, 1, 2),
		eight.ringed(0, 1, 2, 3).ringed(4, 5, 6, 7),
		eight.ringed(0, 1, 2).lined(3, 4),
		eight.lined(0, 1).lined(2, 3),
		eight.lined(0, 1).ringed(2, 3, 4, 5),
		eight.ringed(5, 6, 7),
		eight.ringed(0, 3, 1, 4).ringed(1, 2, 4, 5),
		eight.ringed(0, 1, 2, 3).lined(0, 2),
		eight.ringed(0, 1, 2, 3).lined(0, 2).lined(1, 3),
		eight.ringed(0, 1, 2, 3, 4, 5).lined(0, 2, 4, 0),
		eight.ringed(0, 1, 2, 3, 4, 5).lined(0, 2, 4, 0).lined(1, 3, 5, 1),
		eight.lined(0, 2, 1, 3, 0).lined(2, 4, 3, 5, 2).lined(4, 6, 5, 7, 4),
		eight.ringed(0, 1, 2, 3, 4, 5, 6, 7).lined(0, 4),
		eight.ringed(0, 1, 2, 3, 4, 5, 6, 7).lined(0, 4).lined(1, 5),
		eight.ringed(0, 1, 2, 3, 4, 5, 6, 7).ringed(0, 2, 4, 6).ringed(1, 3, 5, 7),
		eight.ringed(0, 1, 2, 3, 4, 5, 6, 7).ringed(0, 2, 4, 6).ringed(1, 3, 5, 7).lined(3, 6),
		sidesFilled(4),
		sidesFilled(2),
		sidesFilled(2).lined(0, 1),
		sidesFilled(4).set(0, 4, false).set(1, 5, false).set(2, 6, false).set(3, 7, false),
		eight.filled(0, 1, 2, 3, 4),
		eight.filled(0, 1, 2, 3, 4).filled(4, 5, 6),
		eight.filled(0, 1, 2).filled(2, 3, 4, 5, 6),
		eight.filled(0, 1, 2, 3, 4, 5, 6),
		eight.filled(0, 1, 2, 3, 4, 5, 6).lined(3, 7),
		eight.filled(0, 1, 2, 3, 4, 5, 6).set(0, 1, false),
		eight.filled(1, 2, 3, 4, 5, 6, 7),
		seven.filled(0, 1, 2, 3, 4, 5, 6),
		seven.filled(0, 1, 2, 3, 4, 5, 6).set(2, 5, false),
		eight.filled(knotsOf(impl.NetKnots)...).set(0, 1, false).set(2, 3, false).set(4, 5, false).set(6, 7, false),
		eight.filled(knotsOf(impl.NetKnots)...).set(0, 1, false).set(2, 3, false).set(4, 5, false),
		eight.filled(knotsOf(impl.NetKnots)...).set(6, 7, false),
		eight.filled(knotsOf(impl.NetKnots)...),
	}
}

// trailed is a net that has a trail: the ties that one has gone over who went on, each time over one that was not gone over, as long as was wanted, or as there was one.
func trailed(r *numbers) grid {
	g := grid{knots: 4 + r.below(impl.NetKnots-3)}
	at, wanted := r.below(g.knots), 3+r.below(3*g.knots)
	for range wanted {
		var next []int
		for k := range g.knots {
			if k != at && !g.has(at, k) {
				next = append(next, k)
			}
		}
		if len(next) == 0 {
			break
		}
		to := next[r.below(len(next))]
		g = g.set(at, to, true)
		at = to
	}
	return g
}

// trailGrids is pairGrids, trailShapes with their knots named in many ways, and nets that have a trail, each with and without one change: a tie less, or one more.
func trailGrids() iter.Seq[grid] {
	return func(yield func(grid) bool) {
		for g := range pairGrids() {
			if !yield(g) {
				return
			}
		}
		r := numbers(25)
		for _, g := range trailShapes() {
			if !yield(g) {
				return
			}
			for range 8 {
				if !yield(g.renamed(shuffled(knotsOf(g.knots), &r))) {
					return
				}
			}
		}
		for range 300 {
			g := trailed(&r)
			tie := shuffled(pairsOf(g.knots), &r)[0]
			if !yield(g) || !yield(g.set(tie.A, tie.B, !g.has(tie.A, tie.B))) {
				return
			}
		}
	}
}

// badTrailNets is badPairNets, and nets that are not ok, each of which would have a trail if its fault were passed over.
func badTrailNets() []badNet {
	return append(badPairNets(),
		badNet{"a row out of order", impl.Net{Knots: 3, Ties: tiesOf(1, 2, 0, 1)}},
		badNet{"a row with its knots the other way", impl.Net{Knots: 3, Ties: tiesOf(1, 0, 2, 1)}},
		badNet{"a row of a tie that is there twice", impl.Net{Knots: 2, Ties: tiesOf(0, 1, 0, 1)}},
		badNet{"a row, there and back", impl.Net{Knots: 2, Ties: tiesOf(0, 1, 1, 0)}},
		badNet{"a knot to itself, alone", impl.Net{Knots: 1, Ties: tiesOf(0, 0)}},
		badNet{"a row with a knot past the end", impl.Net{Knots: 2, Ties: tiesOf(0, 1, 1, 2)}},
		badNet{"a row with a knot past the end of the greatest", impl.Net{Knots: impl.NetKnots, Ties: tiesOf(6, 7, 7, 8)}},
		badNet{"a row of all knots, and one more", impl.Net{Knots: impl.NetKnots + 1, Ties: tiesOf(0, 1, 1, 2, 2, 3, 3, 4, 4, 5, 5, 6, 6, 7, 7, 8)}},
		badNet{"a row that begins below 0", impl.Net{Knots: 2, Ties: tiesOf(-1, 0, 0, 1)}},
		badNet{"a ring of four out of order", impl.Net{Knots: 4, Ties: tiesOf(0, 1, 1, 2, 2, 3, 0, 3)}},
		badNet{"two rings that share a knot, and one knot too few", impl.Net{Knots: 4, Ties: tiesOf(0, 1, 0, 2, 1, 2, 2, 3, 2, 4, 3, 4)}},
		badNet{"all pairs of seven, and one knot too few", impl.Net{Knots: 6, Ties: gridOf(7, 1<<21-1).net().Ties}},
		badNet{"all pairs of seven, and knots below 0", impl.Net{Knots: -7, Ties: gridOf(7, 1<<21-1).net().Ties}},
		badNet{"all pairs of seven, and far too many knots", impl.Net{Knots: 1 << 40, Ties: gridOf(7, 1<<21-1).net().Ties}},
		badNet{"all pairs of seven, turned about", impl.Net{Knots: 7, Ties: turned(gridOf(7, 1<<21-1).net().Ties)}},
	)
}
