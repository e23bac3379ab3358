package tests

import (
	"slices"
	"testing"

	"loop.example/osier/impl"
)

// rowsOf is all rows of knots, of at least one, none twice, of so many knots; by how long they are, then by their knots.
func rowsOf(knots int) [][]int {
	var out [][]int
	last := [][]int{{}}
	for range knots {
		var next [][]int
		for _, row := range last {
			for k := range knots {
				if !slices.Contains(row, k) {
					next = append(next, append(slices.Clone(row), k))
				}
			}
		}
		out = append(out, next...)
		last = next
	}
	return out
}

// rowTable is rowsOf of each number of knots, made once a test, as the long ones are many.
type rowTable [impl.NetKnots + 1][][]int

func newRowTable() *rowTable {
	var out rowTable
	for k := range out {
		out[k] = rowsOf(k)
	}
	return &out
}

// isWay tells of any numbers whether they are a way, by the document's words.
func (g grid) isWay(row []int) bool {
	for i, k := range row {
		if !g.isKnot(k) || slices.Contains(row[:i], k) || i > 0 && !g.has(row[i-1], k) {
			return false
		}
	}
	return len(row) > 0
}

// between is ways by their first and last knot.
type between [impl.NetKnots][impl.NetKnots][][]int

// ways is all ways of a net, each taken from all rows.
func (g grid) ways(rows *rowTable) *between {
	var out between
	for _, row := range rows[g.knots] {
		if g.isWay(row) {
			a, b := row[0], row[len(row)-1]
			out[a][b] = append(out[a][b], row)
		}
	}
	return &out
}

// parts is, of each knot, the least of its part: numbers go over from knot to knot until none gets less.
func (g grid) parts() []int {
	out := make([]int, g.knots)
	for k := range out {
		out[k] = k
	}
	for changed := true; changed; {
		changed = false
		for a := range g.knots {
			for b := range g.knots {
				if g.tied[a][b] && out[b] > out[a] {
					out[b], changed = out[a], true
				}
			}
		}
	}
	return out
}

// partCount is how many different numbers its parts have.
func (g grid) partCount() int {
	seen := map[int]bool{}
	for _, p := range g.parts() {
		seen[p] = true
	}
	return len(seen)
}

func turned[T any](row []T) []T {
	out := slices.Clone(row)
	slices.Reverse(out)
	return out
}

// standsAhead says whether a way stands ahead of another one in order.
func standsAhead(x, y []int) bool {
	if len(x) != len(y) {
		return len(x) < len(y)
	}
	return slices.Compare(x, y) < 0
}

func sameLists[T comparable](x, y [][]T) bool {
	return slices.EqualFunc(x, y, slices.Equal[[]T])
}

func cloneLists[T any](lists [][]T) [][]T {
	var out [][]T
	for _, l := range lists {
		out = append(out, slices.Clone(l))
	}
	return out
}

// expectListsApart fails if two of these lists share memory, spare room included. It writes over all of it.
func expectListsApart(t *testing.T, what string, lists [][]int) {
	t.Helper()
	expectApart(t, what, lists, func(i int) int { return -1000 - i })
}

// expectApart does so with lists of any kind, by a mark of each list's own.
func expectApart[T comparable](t *testing.T, what string, lists [][]T, mark func(int) T) {
	t.Helper()
	for i, l := range lists {
		for j := range l[:cap(l)] {
			l[:cap(l)][j] = mark(i)
		}
	}
	for i, l := range lists {
		for _, x := range l[:cap(l)] {
			if x != mark(i) {
				t.Fatalf("%s: list %d shares memory with the one that is marked %v", what, i, x)
			}
		}
	}
}

// roomyRow is numbers in the midst of a longer list, and that whole list.
func roomyRow(row []int) ([]int, []int) {
	const ahead, behind = 2, 20
	whole := make([]int, ahead+len(row)+behind)
	for i := range whole {
		whole[i] = 500 + i
	}
	copy(whole[ahead:], row)
	return whole[ahead : ahead+len(row)], whole
}
