package tests

import (
	"iter"
	"slices"
	"testing"

	"loop.example/osier/impl"
)

// cuts is all knots that cut, by the document's words.
func (g grid) cuts() []int {
	var out []int
	for k := range g.knots {
		// Without its ties the knot is a part by itself, which is none of the others'.
		if others := g.without(k).partCount() - 1; g.hasTies(k) && others > g.partCount() {
			out = append(out, k)
		}
	}
	return out
}

func (g grid) hasTies(k int) bool {
	return g.isKnot(k) && slices.Contains(g.tied[k][:], true)
}

// partsWithTies is how many parts have two knots or more.
func (g grid) partsWithTies() int {
	out := 0
	for k, least := range g.parts() {
		if k == least && g.hasTies(k) {
			out++
		}
	}
	return out
}

// mates is, of each tie, all that are in one ring with it, and itself.
type mates map[impl.Tie]map[impl.Tie]bool

// mates is by all rings, each taken from all rows of knots.
func (g grid) mates(rows *rowTable) mates {
	out := mates{}
	for _, tie := range g.net().Ties {
		out[tie] = map[impl.Tie]bool{tie: true}
	}
	for _, row := range rows[g.knots] {
		// Each ring is met from each of its knots, and both ways: once is enough.
		if len(row) < 3 || row[0] != slices.Min(row) || row[1] > row[len(row)-1] {
			continue
		}
		if !g.isWay(row) || !g.has(row[0], row[len(row)-1]) {
			continue
		}
		ring := ringTies(row)
		for _, x := range ring {
			for _, y := range ring {
				out[x][y] = true
			}
		}
	}
	return out
}

// blocks is, by their first ties, each tie and all that are in one ring with it.
func (m mates) blocks(ties []impl.Tie) [][]impl.Tie {
	var out [][]impl.Tie
	done := map[impl.Tie]bool{}
	for _, first := range ties {
		if done[first] {
			continue
		}
		var block []impl.Tie
		for _, tie := range ties {
			if m[first][tie] {
				done[tie] = true
				block = append(block, tie)
			}
		}
		out = append(out, block)
	}
	return out
}

// linked is the same blocks by another way, with no rings: two ties of one knot are in one just if their other ends
// are of one part without it, and so it goes over from tie to tie.
func (g grid) linked() [][]impl.Tie {
	ties := g.net().Ties
	names := knotsOf(len(ties))
	var without [impl.NetKnots][]int
	for k := range g.knots {
		without[k] = g.without(k).parts()
	}
	for changed := true; changed; {
		changed = false
		for i, x := range ties {
			for j, y := range ties {
				if names[i] < names[j] && linkedAt(&without, x, y) {
					names[j], changed = names[i], true
				}
			}
		}
	}
	var out [][]impl.Tie
	for i := range ties {
		var block []impl.Tie
		for j, tie := range ties {
			if names[j] == i {
				block = append(block, tie)
			}
		}
		if len(block) > 0 {
			out = append(out, block)
		}
	}
	return out
}

func linkedAt(without *[impl.NetKnots][]int, x, y impl.Tie) bool {
	for _, k := range []int{x.A, x.B} {
		if k != y.A && k != y.B {
			continue
		}
		if parts := without[k]; parts[x.A+x.B-k] == parts[y.A+y.B-k] {
			return true
		}
	}
	return false
}

// knotsOfTies is the knots of ties, ascending.
func knotsOfTies(list []impl.Tie) []int {
	var out []int
	for _, tie := range list {
		out = append(out, tie.A, tie.B)
	}
	slices.Sort(out)
	return slices.Compact(out)
}

// knotsOfBlocks is those of each block.
func knotsOfBlocks(blocks [][]impl.Tie) [][]int {
	var out [][]int
	for _, block := range blocks {
		out = append(out, knotsOfTies(block))
	}
	return out
}

// blockTree is, of each of these knots, the places of all blocks that it is of.
func blockTree(cuts []int, blocks [][]int) []impl.Tie {
	var out []impl.Tie
	for _, k := range cuts {
		for place, knots := range blocks {
			if slices.Contains(knots, k) {
				out = append(out, impl.Tie{A: k, B: place})
			}
		}
	}
	return out
}

// common is all that is in both lists.
func common[T comparable](x, y []T) []T {
	var out []T
	for _, k := range x {
		if slices.Contains(y, k) {
			out = append(out, k)
		}
	}
	return out
}

// placeOf is the place of the block that a tie is in; -1, if it is in none, or in two.
func placeOf(blocks [][]impl.Tie, tie impl.Tie) int {
	place := -1
	for i, block := range blocks {
		if !slices.Contains(block, tie) {
			continue
		}
		if place >= 0 {
			return -1
		}
		place = i
	}
	return place
}

// blockShapes is nets by how their blocks hang together: at one knot, in a row, over ties alone, and several parts side by side.
func blockShapes() []grid {
	eight := grid{knots: impl.NetKnots}
	seven := grid{knots: impl.NetKnots - 1}
	return []grid{
		eight.lined(3, 0).lined(3, 1).lined(3, 2).lined(3, 4).lined(3, 5).lined(3, 6).lined(3, 7),
		seven.ringed(0, 1, 6).ringed(2, 3, 6).ringed(4, 5, 6),
		seven.ringed(0, 1, 2).ringed(0, 3, 4).ringed(0, 5, 6),
		eight.ringed(4, 0, 7).ringed(4, 1, 6).lined(4, 2).lined(4, 3, 5),
		eight.ringed(0, 1, 2, 3).ringed(2, 3, 4, 5).ringed(4, 5, 6, 7),
		eight.ringed(0, 1, 2).ringed(1, 2, 3).lined(3, 4).ringed(4, 5, 6).ringed(4, 6, 7),
		eight.ringed(0, 7, 3).ringed(3, 6, 1).ringed(1, 5, 2),
		eight.ringed(0, 1, 2, 3).lined(0, 2).lined(1, 3).ringed(3, 4, 5).lined(5, 6, 7),
		eight.ringed(0, 1, 2, 3).lined(0, 2).lined(1, 3).ringed(4, 5, 6, 7).lined(4, 6).lined(5, 7),
		eight.ringed(0, 1, 2).ringed(3, 4, 5).lined(5, 6).ringed(5, 7, 6),
		eight.lined(0, 1).ringed(2, 3, 4, 5).lined(2, 6).lined(4, 7),
		eight.lined(0, 2, 4).lined(1, 3, 5, 7),
		eight.lined(7, 0, 6, 1, 5, 2, 4, 3),
		eight.ringed(7, 0, 6, 1, 5, 2, 4, 3),
	}
}

// blockGrids is bridgeGrids, and blockShapes with their knots named in many ways.
func blockGrids() iter.Seq[grid] {
	return func(yield func(grid) bool) {
		for g := range bridgeGrids() {
			if !yield(g) {
				return
			}
		}
		r := numbers(10)
		for _, g := range blockShapes() {
			if !yield(g) {
				return
			}
			for range 8 {
				if !yield(g.renamed(shuffled(knotsOf(g.knots), &r))) {
					return
				}
			}
		}
	}
}

// expectTiesApart fails if two of these lists share memory, spare room included. It writes over all of it.
func expectTiesApart(t *testing.T, what string, lists [][]impl.Tie) {
	t.Helper()
	expectApart(t, what, lists, func(i int) impl.Tie { return impl.Tie{A: -1000 - i, B: -2000 - i} })
}
