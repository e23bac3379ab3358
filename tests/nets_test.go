package tests

import (
	"fmt"
	"iter"
	"math"
	"slices"
	"testing"

	"loop.example/osier/impl"
)

// grid is a net as the tests see it, held apart from the program's way: which knots are tied to which, both ways.
type grid struct {
	knots int
	tied  [impl.NetKnots][impl.NetKnots]bool
}

func (g grid) isKnot(k int) bool {
	return k >= 0 && k < g.knots
}

func (g grid) has(a, b int) bool {
	return g.isKnot(a) && g.isKnot(b) && g.tied[a][b]
}

func (g grid) set(a, b int, tied bool) grid {
	g.tied[a][b], g.tied[b][a] = tied, tied
	return g
}

func (g grid) without(k int) grid {
	for other := range impl.NetKnots {
		g = g.set(k, other, false)
	}
	return g
}

func (g grid) net() impl.Net {
	n := impl.Net{Knots: g.knots}
	for _, p := range pairsOf(g.knots) {
		if g.tied[p.A][p.B] {
			n.Ties = append(n.Ties, p)
		}
	}
	return n
}

func (g grid) text() string {
	out := fmt.Sprintf("knots %d\n", g.knots)
	for a := 0; a < g.knots; a++ {
		for b := a + 1; b < g.knots; b++ {
			if g.tied[a][b] {
				out += fmt.Sprintf("tie %d %d\n", a, b)
			}
		}
	}
	return out
}

// pairsOf is all ties that a net of so many knots may have, in order.
func pairsOf(knots int) []impl.Tie {
	var out []impl.Tie
	for a := 0; a < knots; a++ {
		for b := a + 1; b < knots; b++ {
			out = append(out, impl.Tie{A: a, B: b})
		}
	}
	return out
}

// gridOf is the net in which the pair at each place is tied whose bit is set.
func gridOf(knots int, chosen uint64) grid {
	g := grid{knots: knots}
	for i, p := range pairsOf(knots) {
		if chosen>>i&1 != 0 {
			g = g.set(p.A, p.B, true)
		}
	}
	return g
}

// allGrids is every net of at most so many knots.
func allGrids(knots int) iter.Seq[grid] {
	return func(yield func(grid) bool) {
		for k := 0; k <= knots; k++ {
			for chosen := uint64(0); chosen < 1<<len(pairsOf(k)); chosen++ {
				if !yield(gridOf(k, chosen)) {
					return
				}
			}
		}
	}
}

// numbers is a fixed row that looks without rule, so that each run tests the same.
type numbers uint64

func (r *numbers) next() uint64 {
	*r += 0x9e3779b97f4a7c15
	z := uint64(*r)
	z = (z ^ z>>30) * 0xbf58476d1ce4e5b9
	z = (z ^ z>>27) * 0x94d049bb133111eb
	return z ^ z>>31
}

func (r *numbers) below(n int) int {
	return int(r.next() % uint64(n))
}

// grids is every net of at most four knots, and of each greater number of them the one without ties, the one with all, those with one tie or all but one, and some others.
func grids() iter.Seq[grid] {
	return func(yield func(grid) bool) {
		for g := range allGrids(4) {
			if !yield(g) {
				return
			}
		}
		r := numbers(1)
		for k := 5; k <= impl.NetKnots; k++ {
			all := uint64(1)<<len(pairsOf(k)) - 1
			chosen := []uint64{0, all}
			for i := range pairsOf(k) {
				chosen = append(chosen, 1<<i, all&^(1<<i))
			}
			for range 30 {
				chosen = append(chosen, r.next()&all, r.next()&r.next()&all)
			}
			for _, c := range chosen {
				if !yield(gridOf(k, c)) {
					return
				}
			}
		}
	}
}

// places is numbers in 0..NetKnots, and some that are a knot of no net.
func places() []int {
	out := []int{math.MinInt, math.MinInt32, -64, -8, -2, -1}
	for k := 0; k <= impl.NetKnots+1; k++ {
		out = append(out, k)
	}
	return append(out, 16, 63, 64, 65, math.MaxInt32, 1<<32, 1<<32+1, math.MaxInt)
}

type badNet struct {
	name string
	net  impl.Net
}

// badNets is nets that are not ok, each for one reason.
func badNets() []badNet {
	tie := func(a, b int) impl.Tie { return impl.Tie{A: a, B: b} }
	row := func(knots int, ties ...impl.Tie) impl.Net { return impl.Net{Knots: knots, Ties: ties} }
	out := []badNet{
		{"knots below 0", row(-1)},
		{"knots far below 0", row(math.MinInt)},
		{"one knot too many", row(impl.NetKnots + 1)},
		{"one knot too many, tied", row(impl.NetKnots+1, tie(0, 1))},
		{"far too many knots", row(math.MaxInt)},
		{"knots below 0, tied", row(-1, tie(0, 1))},
		{"tied without knots", row(0, tie(0, 1))},
		{"tied with one knot", row(1, tie(0, 1))},
		{"to itself", row(3, tie(1, 1))},
		{"first to itself", row(3, tie(0, 0))},
		{"to itself behind another", row(3, tie(0, 1), tie(1, 1))},
		{"turned about", row(3, tie(2, 1))},
		{"turned about behind another", row(3, tie(0, 1), tie(2, 0))},
		{"B past the end", row(3, tie(0, 3))},
		{"B past the end of the greatest", row(impl.NetKnots, tie(0, impl.NetKnots))},
		{"both past the end", row(3, tie(3, 4))},
		{"B far past the end", row(3, tie(0, math.MaxInt))},
		{"A below 0", row(3, tie(-1, 2))},
		{"A far below 0", row(3, tie(math.MinInt, 2))},
		{"both below 0", row(3, tie(-2, -1))},
		{"by A out of order", row(4, tie(1, 2), tie(0, 3))},
		{"by B out of order", row(4, tie(0, 2), tie(0, 1))},
		{"last out of order", row(4, tie(0, 1), tie(2, 3), tie(1, 3))},
		{"not by B alone", row(4, tie(0, 1), tie(1, 2), tie(0, 3))},
		{"twice", row(4, tie(0, 1), tie(0, 1))},
		{"twice at the end", row(4, tie(0, 1), tie(2, 3), tie(2, 3))},
		{"twice apart", row(4, tie(0, 1), tie(1, 2), tie(0, 1))},
		{"twice, turned about", row(4, tie(0, 1), tie(1, 0))},
	}
	all := gridOf(impl.NetKnots, math.MaxUint64).net()
	out = append(out, badNet{"one more than all", row(all.Knots, append(slices.Clone(all.Ties), tie(6, 7))...)})
	return append(out, badNet{"a great many", row(all.Knots, slices.Repeat(all.Ties, 1000)...)})
}

func sameNet(x, y impl.Net) bool {
	return x.Knots == y.Knots && slices.Equal(x.Ties, y.Ties)
}

func isNothing(n impl.Net) bool {
	return n.Knots == 0 && len(n.Ties) == 0
}

// expect fails if an answer that is a net and whether there is one is not this grid's.
func expect(t *testing.T, what string, got impl.Net, ok bool, want grid) {
	t.Helper()
	if !ok || !sameNet(got, want.net()) {
		t.Fatalf("%s: %v %v, not %v", what, got, ok, want.net())
	}
}

// expectNone fails if such an answer is not nothing and false.
func expectNone(t *testing.T, what string, got impl.Net, ok bool) {
	t.Helper()
	if ok || !isNothing(got) {
		t.Fatalf("%s: %v %v, not nothing and false", what, got, ok)
	}
}
