package tests

import (
	"cmp"
	"iter"
	"slices"

	"loop.example/osier/impl"
)

func compareTies(x, y impl.Tie) int {
	return cmp.Or(cmp.Compare(x.A, y.A), cmp.Compare(x.B, y.B))
}

// tiesAhead says whether ties stand ahead of others in order, the first tie compared first.
func tiesAhead(x, y []impl.Tie) bool {
	return slices.CompareFunc(x, y, compareTies) < 0
}

// subsets is all choices of these ties, each in order.
func subsets(ties []impl.Tie) iter.Seq[[]impl.Tie] {
	return func(yield func([]impl.Tie) bool) {
		for chosen := uint64(0); chosen < 1<<len(ties); chosen++ {
			var list []impl.Tie
			for i, tie := range ties {
				if chosen>>i&1 != 0 {
					list = append(list, tie)
				}
			}
			if !yield(list) {
				return
			}
		}
	}
}

// by is the grid's knots with these ties alone.
func (g grid) by(list []impl.Tie) grid {
	out := grid{knots: g.knots}
	for _, tie := range list {
		out = out.set(tie.A, tie.B, true)
	}
	return out
}

// holdsAll says whether by these ties of it just those knots are of one part that are so in the net.
func (g grid) holdsAll(list []impl.Tie) bool {
	return slices.Equal(g.by(list).parts(), g.parts())
}

// inOrder says whether these are ties of the net, in order, each once.
func (g grid) inOrder(list []impl.Tie) bool {
	ties, last := g.net().Ties, -1
	for _, tie := range list {
		place := slices.Index(ties, tie)
		if place <= last {
			return false
		}
		last = place
	}
	return true
}

// isTree tells of any ties whether they are a tree of the net: they hold all, and do so no more without any one.
func (g grid) isTree(list []impl.Tie) bool {
	if !g.inOrder(list) || !g.holdsAll(list) {
		return false
	}
	for i := range list {
		if g.holdsAll(without(list, i)) {
			return false
		}
	}
	return true
}

// treeBy is, of ties that come in any order, each whose two knots are not of one part by those taken ahead; in order.
func (g grid) treeBy(ties []impl.Tie) []impl.Tie {
	var list []impl.Tie
	for _, tie := range ties {
		if parts := g.by(list).parts(); parts[tie.A] != parts[tie.B] {
			list = append(list, tie)
		}
	}
	slices.SortFunc(list, compareTies)
	return list
}

// shuffled is the list in an order that looks without rule.
func shuffled[T any](list []T, r *numbers) []T {
	out := slices.Clone(list)
	for i := range out {
		j := i + r.below(len(out)-i)
		out[i], out[j] = out[j], out[i]
	}
	return out
}

// without is the list without what stands at that place, in memory of its own.
func without[T any](list []T, place int) []T {
	return slices.Delete(slices.Clone(list), place, place+1)
}

// inserted is the ties with one more, in order.
func inserted(list []impl.Tie, tie impl.Tie) []impl.Tie {
	out := append(slices.Clone(list), tie)
	slices.SortFunc(out, compareTies)
	return out
}

// tieOf is the tie between two knots, the lesser one first.
func tieOf(a, b int) impl.Tie {
	return impl.Tie{A: min(a, b), B: max(a, b)}
}

// others is the ties that are not in the list, in order.
func others(ties, list []impl.Tie) []impl.Tie {
	var out []impl.Tie
	for _, tie := range ties {
		if !slices.Contains(list, tie) {
			out = append(out, tie)
		}
	}
	return out
}

// roomyTies is ties in the midst of a longer list, and that whole list.
func roomyTies(list []impl.Tie) ([]impl.Tie, []impl.Tie) {
	n, whole := roomy(impl.Net{Ties: list})
	return n.Ties, whole
}
