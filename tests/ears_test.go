package tests

import (
	"cmp"
	"iter"
	"slices"

	"loop.example/osier/impl"
)

// isEar tells of any row whether it is an ear behind those ahead, by the document's words; their ties are asked about elsewhere.
func (g grid) isEar(ear []int, ahead [][]int) bool {
	if len(ear) == 0 {
		return false
	}
	first, last := ear[0], ear[len(ear)-1]
	there := slices.Concat(ahead...)
	for i, k := range ear {
		if i > 0 && !g.has(ear[i-1], k) {
			return false
		}
		inner := i > 0 && i < len(ear)-1
		if inner && (slices.Contains(there, k) || countIn(ear, k) != 1) {
			return false
		}
	}
	if first == last && len(ear) < 4 {
		return false
	}
	if len(ahead) == 0 {
		return first == last
	}
	return slices.Contains(there, first) && slices.Contains(there, last)
}

// countIn is how often a number is in a list.
func countIn(list []int, k int) int {
	count := 0
	for _, x := range list {
		if x == k {
			count++
		}
	}
	return count
}

// areEars tells of any rows whether they are ears of the net, by the document's words.
func (g grid) areEars(ears [][]int) bool {
	var gone []impl.Tie
	for i, ear := range ears {
		if !g.isEar(ear, ears[:i]) {
			return false
		}
		gone = append(gone, wayTies(ear)...)
	}
	slices.SortFunc(gone, compareTies)
	knots := slices.Concat(ears...)
	slices.Sort(knots)
	return len(ears) > 0 && slices.Equal(gone, g.net().Ties) && slices.Equal(slices.Compact(knots), knotsOf(g.knots))
}

// hasEars says whether EarOf tells ears, by the document's words.
func (g grid) hasEars() bool {
	return g.knots >= 3 && g.partCount() == 1 && len(g.bridges()) == 0
}

// endings is all ways that begin with this row and go on, through knots that are not there, to one that is.
func (g grid) endings(row, there []int) [][]int {
	at := row[len(row)-1]
	if slices.Contains(there, at) {
		return [][]int{row}
	}
	var out [][]int
	for k := range g.knots {
		if g.has(at, k) && !slices.Contains(row, k) {
			out = append(out, g.endings(append(slices.Clone(row), k), there)...)
		}
	}
	return out
}

// aheadOfEnding says of two endings which is taken first: the shorter one; else the one to the lesser end; else by their knots.
func aheadOfEnding(x, y []int) int {
	return cmp.Or(cmp.Compare(len(x), len(y)), cmp.Compare(x[len(x)-1], y[len(y)-1]), slices.Compare(x, y))
}

// firstLeft is the least knot of some that has a tie, and the least other knot of its ties; and whether there is one.
func (g grid) firstLeft(there []int) (int, int, bool) {
	for _, k := range slices.Sorted(slices.Values(there)) {
		if other := slices.Index(g.tied[k][:], true); other >= 0 {
			return k, other, true
		}
	}
	return 0, 0, false
}

// withoutTies is the grid without the ties of a row.
func (g grid) withoutTies(row []int) grid {
	for _, tie := range wayTies(row) {
		g = g.set(tie.A, tie.B, false)
	}
	return g
}

// ears is what EarOf tells of a net that has ears: of each next ear all ways on are held against each other.
func (g grid) ears() [][]int {
	var out [][]int
	there := []int{0}
	for from, over, ok := g.firstLeft(there); ok; from, over, ok = g.firstLeft(there) {
		ends := g.set(from, over, false).endings([]int{over}, there)
		ear := append([]int{from}, slices.MinFunc(ends, aheadOfEnding)...)
		out = append(out, ear)
		there = append(there, ear...)
		g = g.withoutTies(ear)
	}
	return out
}

// someEars is ears of a net that has them, each begun anywhere, and gone on with anyhow.
func (g grid) someEars(r *numbers) [][]int {
	var out [][]int
	there := []int{r.below(g.knots)}
	for len(g.net().Ties) > 0 {
		from := shuffled(there, r)[0]
		ways := g.endingsFrom(from, there)
		if len(ways) == 0 {
			continue
		}
		ear := ways[r.below(len(ways))]
		if r.below(2) == 0 {
			ear = turned(ear)
		}
		out = append(out, ear)
		there = append(there, ear...)
		g = g.withoutTies(ear)
	}
	return out
}

// endingsFrom is all ears that begin at that knot, with these there.
func (g grid) endingsFrom(from int, there []int) [][]int {
	var out [][]int
	for over := range g.knots {
		if !g.has(from, over) {
			continue
		}
		for _, end := range g.set(from, over, false).endings([]int{over}, there) {
			out = append(out, append([]int{from}, end...))
		}
	}
	return out
}

// allEars is all ears of a net, whichever they begin with, and in each order.
func (g grid) allEars() iter.Seq[[][]int] {
	return func(yield func([][]int) bool) {
		for k := range g.knots {
			if !g.earsBehind(g, []int{k}, nil, yield) {
				return
			}
		}
	}
}

// earsBehind tells all ears that begin with these, of ties that are left. It is false if no more are wanted.
func (g grid) earsBehind(left grid, there []int, ears [][]int, yield func([][]int) bool) bool {
	if g.areEars(ears) {
		return yield(ears)
	}
	for _, k := range slices.Compact(slices.Sorted(slices.Values(there))) {
		for _, ear := range left.endingsFrom(k, there) {
			more := append(slices.Clone(ears), ear)
			if !g.earsBehind(left.withoutTies(ear), slices.Concat(there, ear), more, yield) {
				return false
			}
		}
	}
	return true
}

// madeOf is the net that ears are made of, its knots named anew, in order, and the ears by these names.
func madeOf(ears [][]int) (grid, [][]int) {
	knots := slices.Compact(slices.Sorted(slices.Values(slices.Concat(ears...))))
	g := grid{knots: len(knots)}
	var out [][]int
	for _, ear := range ears {
		var row []int
		for _, k := range ear {
			row = append(row, slices.Index(knots, k))
		}
		out = append(out, row)
		g = g.lined(row...)
	}
	return g, out
}

// earShapes is nets whose ears are of each kind: rings at a knot, ways of several ties and of one, and choices between ways on.
func earShapes() []grid {
	eight := grid{knots: impl.NetKnots}
	return []grid{
		severalEnds(),
		shorterToTheGreater(),
		ringInABlock(),
		{knots: 7, tied: eight.ringed(0, 1, 2).ringed(0, 3, 4).ringed(0, 5, 6).tied},
		{knots: 7, tied: eight.ringed(0, 1, 2).ringed(2, 3, 4).ringed(4, 5, 6).tied},
		{knots: 7, tied: eight.ringed(0, 6, 3).ringed(3, 5, 1).ringed(1, 4, 2).tied},
		{knots: 6, tied: eight.ringed(0, 1, 2).ringed(1, 2, 3).ringed(2, 3, 4).ringed(3, 4, 5).tied},
		eight.ringed(0, 1, 2, 3).ringed(3, 4, 5, 6).lined(3, 7, 6),
		eight.ringed(0, 7, 1, 6).ringed(1, 6, 2, 5).ringed(2, 5, 3, 4),
		eight.ringed(0, 1, 2).lined(0, 3, 4, 5, 6, 1).lined(3, 7, 2),
		eight.ringed(0, 1, 2).lined(0, 3, 4, 6, 0).lined(4, 5, 7, 2),
		eight.ringed(0, 5, 6).lined(5, 1, 6).lined(1, 2, 3, 4, 1).lined(2, 7, 3),
		eight.filled(0, 1, 2, 3).ringed(3, 4, 5).filled(5, 6, 7).lined(4, 6),
		eight.filled(0, 2, 4, 6).filled(1, 3, 5, 7).lined(0, 1).lined(6, 7),
		eight.filled(0, 1, 2, 3).filled(0, 4, 5, 6).lined(4, 7, 6),
		eight.lined(0, 1, 4).lined(0, 2, 4).lined(0, 3, 4).lined(4, 5, 7).lined(4, 6, 7),
		eight.filled(0, 1, 2, 3, 4, 5, 6).lined(0, 7, 6),
	}
}

// severalEnds is a net whose second ear could end at two knots by ways as long, and at the lesser one by two.
func severalEnds() grid {
	return grid{knots: 7}.ringed(0, 1, 2).lined(0, 3, 4, 2).lined(3, 5, 1).lined(3, 6, 1)
}

// shorterToTheGreater is a net whose second ear could end at a knot by a longer way than at a greater one.
func shorterToTheGreater() grid {
	return grid{knots: 5}.ringed(0, 1, 2).lined(0, 3, 4, 1).lined(3, 2)
}

// ringInABlock is a net of one block whose second ear is a ring all the same.
func ringInABlock() grid {
	return grid{knots: 5}.ringed(0, 1, 2).ringed(0, 3, 4).lined(4, 1)
}

// earGrids is flowGrids, earShapes with their knots named in many ways, and nets that have ears, of some more ties than knots.
func earGrids() iter.Seq[grid] {
	return func(yield func(grid) bool) {
		for g := range flowGrids() {
			if !yield(g) {
				return
			}
		}
		r := numbers(22)
		for _, g := range earShapes() {
			if !yield(g) {
				return
			}
			for range 8 {
				if !yield(g.renamed(shuffled(knotsOf(g.knots), &r))) {
					return
				}
			}
		}
		for range 300 {
			if !yield(eared(&r)) {
				return
			}
		}
	}
}

// eared is a net that has ears, made of such: each is a line between two knots that are there, or a ring at one.
func eared(r *numbers) grid {
	knots := 3 + r.below(impl.NetKnots-2)
	names := shuffled(knotsOf(knots), r)
	first := 3 + r.below(knots-2)
	g := grid{knots: knots}.ringed(names[:first]...)
	for there := first; there < knots; {
		size := 1 + r.below(knots-there)
		from, to := names[r.below(there)], names[r.below(there)]
		// A ring of two knots would be one tie, there and back.
		if from == to && size == 1 {
			continue
		}
		g = g.lined(slices.Concat([]int{from}, names[there:there+size], []int{to})...)
		there += size
	}
	for range r.below(4) {
		tie := shuffled(pairsOf(knots), r)[0]
		g = g.set(tie.A, tie.B, true)
	}
	return g
}

// withEars is all of some nets that have ears.
func withEars(of iter.Seq[grid]) iter.Seq[grid] {
	return func(yield func(grid) bool) {
		for g := range of {
			if g.hasEars() && !yield(g) {
				return
			}
		}
	}
}

// earsOfMany tells nets that have ears, with ears of each: all of those that have at most four knots, and of the others those that EarOf tells, and some more.
func earsOfMany(seed uint64) iter.Seq2[grid, [][]int] {
	return func(yield func(grid, [][]int) bool) {
		for g := range withEars(allGrids(4)) {
			for ears := range g.allEars() {
				if !yield(g, ears) {
					return
				}
			}
		}
		r := numbers(seed)
		for g := range withEars(earGrids()) {
			for _, ears := range [][][]int{g.ears(), g.someEars(&r), g.someEars(&r)} {
				if !yield(g, ears) {
					return
				}
			}
		}
	}
}
