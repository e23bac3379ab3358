package tests

import (
	"iter"
	"slices"

	"loop.example/osier/impl"
)

// areTwoKnots says whether two numbers are knots of the net, and not the same.
func (g grid) areTwoKnots(a, b int) bool {
	return g.isKnot(a) && g.isKnot(b) && a != b
}

// isFlow tells of any rows whether they are ways from a to b, at most NetKnots, of which no two have a tie in common.
func (g grid) isFlow(a, b int, ways [][]int) bool {
	if !g.areTwoKnots(a, b) || len(ways) > impl.NetKnots {
		return false
	}
	var gone []impl.Tie
	for _, way := range ways {
		if !g.isWay(way) || way[0] != a || way[len(way)-1] != b {
			return false
		}
		ties := wayTies(way)
		if len(others(ties, gone)) < len(ties) {
			return false
		}
		gone = append(gone, ties...)
	}
	return true
}

// areCut says whether a list is ties of the net, in order, each once, without which two knots are of two parts.
func (g grid) areCut(a, b int, list []impl.Tie) bool {
	return g.areTwoKnots(a, b) && g.inOrder(list) && !g.by(others(g.net().Ties, list)).onePart(a, b)
}

// crossings is, of each set of knots, as bits, the ties between these and the others.
func (g grid) crossings() [][]impl.Tie {
	out := make([][]impl.Tie, 1<<g.knots)
	for _, tie := range g.net().Ties {
		for side := range out {
			if side>>tie.A&1 != side>>tie.B&1 {
				out[side] = append(out[side], tie)
			}
		}
	}
	return out
}

// fewer says whether ties are fewer than others, or as many, and stand ahead of them.
func fewer(x, y []impl.Tie) bool {
	if len(x) != len(y) {
		return len(x) < len(y)
	}
	return tiesAhead(x, y)
}

// cutOf is the first of the fewest ties that part two knots: what parts them holds all ties of some crossing between both.
func cutOf(crossings [][]impl.Tie, a, b int) []impl.Tie {
	best := crossings[1<<a]
	for side, list := range crossings {
		if side>>a&1 == 1 && side>>b&1 == 0 && fewer(list, best) {
			best = list
		}
	}
	return best
}

// fewestOf is all sets of ties that part two knots, and are as few as can be, each once.
func fewestOf(crossings [][]impl.Tie, a, b int) [][]impl.Tie {
	size := len(cutOf(crossings, a, b))
	var out [][]impl.Tie
	for side, list := range crossings {
		between := side>>a&1 == 1 && side>>b&1 == 0
		known := slices.ContainsFunc(out, func(other []impl.Tie) bool { return slices.Equal(other, list) })
		if between && len(list) == size && !known {
			out = append(out, list)
		}
	}
	return out
}

// maskOf is the ties of a way as bits.
func maskOf(way []int) uint64 {
	var mask uint64
	for _, tie := range wayTies(way) {
		mask |= 1 << (tie.A*impl.NetKnots + tie.B)
	}
	return mask
}

func masksOf(ways [][]int) []uint64 {
	var out []uint64
	for _, way := range ways {
		out = append(out, maskOf(way))
	}
	return out
}

// mostOf is how many of these ways there are at most of which no two have a tie in common: each choice is tried.
func mostOf(masks []uint64) int {
	most := 0
	for i, mask := range masks {
		var rest []uint64
		for _, other := range masks[i+1:] {
			if other&mask == 0 {
				rest = append(rest, other)
			}
		}
		most = max(most, 1+mostOf(rest))
	}
	return most
}

// someFlow is ways without a tie in common, taken as they come from all ways in an order that looks without rule.
func someFlow(ways [][]int, r *numbers) [][]int {
	var out [][]int
	var gone uint64
	for _, way := range shuffled(ways, r) {
		if mask := maskOf(way); gone&mask == 0 {
			out, gone = append(out, way), gone|mask
		}
	}
	return out
}

// turnedWays is ways, each turned about.
func turnedWays(ways [][]int) [][]int {
	var out [][]int
	for _, way := range ways {
		out = append(out, turned(way))
	}
	return out
}

// tieCount is how many ties a knot has.
func (g grid) tieCount(k int) int {
	count := 0
	for _, tied := range g.tied[k] {
		if tied {
			count++
		}
	}
	return count
}

// filled is the grid with all pairs of these knots tied.
func (g grid) filled(knots ...int) grid {
	for i, a := range knots {
		for _, b := range knots[:i] {
			g = g.set(a, b, true)
		}
	}
	return g
}

// twoTowns is two sets of four knots, all pairs of each tied, and two ties between both.
func twoTowns() grid {
	return grid{knots: impl.NetKnots}.filled(0, 2, 4, 6).filled(1, 3, 5, 7).lined(2, 3).lined(4, 5)
}

// flowShapes is nets whose fewest ties are many, or stand neither at one knot nor at the other one.
func flowShapes() []grid {
	eight := grid{knots: impl.NetKnots}
	return []grid{
		twoTowns(),
		eight.filled(0, 1, 2, 3).filled(3, 4, 5, 6).lined(6, 7),
		eight.filled(0, 1, 2, 3).filled(4, 5, 6, 7).lined(0, 4).lined(1, 5).lined(2, 6),
		eight.filled(0, 1, 2, 3).filled(2, 3, 4, 5).filled(4, 5, 6, 7),
		eight.filled(0, 1, 2, 3, 4).filled(5, 6, 7).lined(4, 5).lined(3, 6),
		eight.lined(0, 1, 7).lined(0, 2, 7).lined(0, 3, 7).lined(0, 4, 7).lined(0, 5, 7).lined(0, 6, 7),
		eight.lined(0, 1, 3, 5, 7).lined(0, 2, 4, 6, 7).lined(1, 4).lined(2, 3).lined(3, 6).lined(4, 5),
		eight.ringed(0, 1, 2, 3).ringed(4, 5, 6, 7).lined(0, 4).lined(2, 6),
		eight.lined(0, 3, 4, 7).lined(0, 1, 4).lined(0, 2, 5, 7).lined(1, 5).lined(3, 6, 7),
		eight.ringed(0, 1, 2).ringed(2, 3, 4).ringed(4, 5, 6).lined(6, 7, 5),
		thereAndBackTwice(),
	}
}

// thereAndBackTwice is a net whose first way from 0 to 7 goes over the tie of 1 and 2 this way, while of as many as can be one goes over it the other way:
// who finds them one by one comes over it there, and then back, and back again.
func thereAndBackTwice() grid {
	return grid{knots: impl.NetKnots}.lined(0, 1, 2, 7).lined(0, 3, 2).lined(0, 4, 2).lined(1, 5, 7).lined(1, 6, 7)
}

// flowGrids is twoGrids, and flowShapes with their knots named in many ways.
func flowGrids() iter.Seq[grid] {
	return func(yield func(grid) bool) {
		for g := range twoGrids() {
			if !yield(g) {
				return
			}
		}
		r := numbers(21)
		for _, g := range flowShapes() {
			if !yield(g) {
				return
			}
			for range 8 {
				if !yield(g.renamed(shuffled(knotsOf(g.knots), &r))) {
					return
				}
			}
		}
	}
}

// allShapes is all nets that are drawn by hand.
func allShapes() []grid {
	return slices.Concat(shapes(), blockShapes(), twoShapes(), flowShapes())
}
