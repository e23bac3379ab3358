package tests

import (
	"math"
	"slices"
	"testing"

	"loop.example/osier/impl"
)

// P97: by the document's words, and by what the program itself says.
func TestATrailThatIsToldIsOne(t *testing.T) {
	t.Parallel()
	told := 0
	for g := range trailGrids() {
		n := g.net()
		for from := range g.knots {
			row, ok := impl.TrailOf(n, from)
			if !ok {
				continue
			}
			if len(row) == 0 || row[0] != from || !g.isTrail(row) || !impl.TrailOk(n, row) {
				t.Fatalf("TrailOf %v %d: %v, which is none, or begins elsewhere, or TrailOk says so", n, from, row)
			}
			told++
		}
	}
	if told < 3000 {
		t.Fatalf("the test is wrong: but %d trails are told", told)
	}
}

// P98: by what is told; of nets of few ties by all rows that go over these, of others by numbers.
func TestThereIsATrailJustIfOneIsTold(t *testing.T) {
	t.Parallel()
	can, none := 0, 0
	for g := range trailGrids() {
		n := g.net()
		for from := range g.knots {
			want := g.canTrail(from)
			if g.fewTies() {
				want = false
				for range g.trails(from) {
					want = true
					break
				}
			}
			row, ok := impl.TrailOf(n, from)
			if is := impl.TrailCan(n, from); is != want || ok != want || !ok && len(row) > 0 {
				t.Fatalf("%v %d: TrailCan %v, TrailOf %v %v, not %v", n, from, is, row, ok, want)
			}
			if want {
				can++
			} else {
				none++
			}
		}
	}
	if can < 3000 || none < 3000 {
		t.Fatalf("the test is wrong: a trail begins at %d knots, none at %d", can, none)
	}
}

// P99; and from the other way: of one part that has all ties there is one, if the numbers are so.
func TestThereIsATrailOnlyIfNoneOrTwoAreOdd(t *testing.T) {
	t.Parallel()
	atOdd, atOther, inSeveral := 0, 0, 0
	for g := range trailGrids() {
		n, odd := g.net(), g.oddKnots()
		for from := range g.knots {
			is := impl.TrailCan(n, from)
			fits := len(odd) == 0 || len(odd) == 2 && slices.Contains(odd, from)
			if is && !fits {
				t.Fatalf("TrailCan %v %d: true, though these have an odd number of ties: %v", n, from, odd)
			}
			if g.partsWithTies() == 1 && g.hasTies(from) && is != fits {
				t.Fatalf("TrailCan %v %d: %v, though all ties are of one part, and these have an odd number: %v", n, from, is, odd)
			}
			switch {
			case is && len(odd) == 2:
				atOdd++
			case len(odd) == 2 && !slices.Contains(odd, from):
				atOther++
			case fits && !is:
				inSeveral++
			}
		}
	}
	if atOdd < 1000 || atOther < 1000 || inSeveral < 100 {
		t.Fatalf("the test is wrong: a trail begins at %d odd knots, none at %d others, and at %d none though the numbers fit", atOdd, atOther, inSeveral)
	}
}

// P100: of all trails of nets of few ties, and some of others.
func TestATrailEndsWhereItBeganJustIfNoneIsOdd(t *testing.T) {
	t.Parallel()
	back, elsewhere := 0, 0
	for g, row := range trailsOf(trailGrids(), 100) {
		n := g.net()
		isBack := row[0] == row[len(row)-1]
		if !impl.TrailOk(n, row) || isBack != (len(g.oddKnots()) == 0) {
			t.Fatalf("%v: TrailOk %v: %v, and these have an odd number of ties: %v", n, row, impl.TrailOk(n, row), g.oddKnots())
		}
		told, ok := impl.TrailOf(n, row[0])
		if !ok || told[len(told)-1] != row[len(row)-1] {
			t.Fatalf("TrailOf %v: %v %v, which does not end where %v ends", n, told, ok, row)
		}
		if isBack {
			back++
		} else {
			elsewhere++
		}
	}
	if back < 1000 || elsewhere < 1000 {
		t.Fatalf("the test is wrong: %d trails end where they began, %d elsewhere", back, elsewhere)
	}
}

// P101: of all trails of nets of few ties, and some of others; and one begins at the other end too.
func TestATrailTurnedAboutIsOne(t *testing.T) {
	t.Parallel()
	for g, row := range trailsOf(trailGrids(), 101) {
		n := g.net()
		if !impl.TrailOk(n, row) || !impl.TrailOk(n, turned(row)) {
			t.Fatalf("%v: TrailOk %v: %v, and turned about %v", n, row, impl.TrailOk(n, row), impl.TrailOk(n, turned(row)))
		}
		if !impl.TrailCan(n, row[len(row)-1]) {
			t.Fatalf("TrailCan %v %d: false, though %v ends there", n, row[len(row)-1], row)
		}
	}
}

// P102: tie by tie, down to the last knot.
func TestBehindItsFirstTieATrailIsOneWithoutThat(t *testing.T) {
	t.Parallel()
	for g, row := range trailsOf(trailGrids(), 102) {
		n := g.net()
		for len(row) > 1 {
			less, ok := impl.NetCut(n, row[0], row[1])
			if !ok || !impl.TrailOk(less, row[1:]) || impl.TrailOk(n, row[1:]) {
				t.Fatalf("%v: %v is a trail, but %v is none without its first tie, or one with it", n, row, row[1:])
			}
			if !impl.TrailCan(less, row[1]) {
				t.Fatalf("TrailCan %v %d: false, though %v is a trail", less, row[1], row[1:])
			}
			n, row = less, row[1:]
		}
	}
}

// P102: the trail that is told goes on as the one that is told of the net without its first tie.
func TestBehindItsFirstTieTheTrailThatIsToldIsTheOneThatIsTold(t *testing.T) {
	t.Parallel()
	for g := range trailGrids() {
		n := g.net()
		for from := range g.knots {
			row, ok := impl.TrailOf(n, from)
			if !ok || len(row) < 2 {
				continue
			}
			less, _ := impl.NetCut(n, row[0], row[1])
			if rest, ok := impl.TrailOf(less, row[1]); !ok || !slices.Equal(rest, row[1:]) {
				t.Fatalf("TrailOf %v %d: %v %v, though behind the first tie of %v", less, row[1], rest, ok, row)
			}
		}
	}
}

// P103: of all trails of nets of few ties, and some of others; by the least knot each time one often comes to where one can't go on.
func TestNoTrailStandsAheadOfTheOneThatIsTold(t *testing.T) {
	t.Parallel()
	behind, otherwise := 0, 0
	for g, row := range trailsOf(trailGrids(), 103) {
		n := g.net()
		told, ok := impl.TrailOf(n, row[0])
		order := slices.Compare(row, told)
		if !ok || order < 0 {
			t.Fatalf("TrailOf %v %d: %v %v, but %v stands ahead", n, row[0], told, ok, row)
		}
		if order > 0 {
			behind++
		} else if !slices.Equal(told, g.greedyTrail(row[0])) {
			otherwise++
		}
	}
	if behind < 10000 || otherwise < 1000 {
		t.Fatalf("the test is wrong: %d trails stand behind the first, %d that are told are not got by the least knot each time", behind, otherwise)
	}
}

// P104: of all nets in which a trail ends where it began; with a bridge one ends elsewhere, if there is one.
func TestANetWithATrailThatEndsWhereItBeganHasNoBridge(t *testing.T) {
	t.Parallel()
	back, overBridges := 0, 0
	for g := range trailGrids() {
		n := g.net()
		for from := range g.knots {
			row, ok := impl.TrailOf(n, from)
			if !ok {
				continue
			}
			bridges := impl.BridgeList(n)
			if row[0] != row[len(row)-1] {
				overBridges += min(len(bridges), 1)
				continue
			}
			if len(bridges) > 0 || len(g.bridges()) > 0 {
				t.Fatalf("%v: %v ends where it began, though there are bridges: %v", n, row, g.bridges())
			}
			if len(row) > 1 {
				back++
			}
		}
	}
	if back < 1000 || overBridges < 300 {
		t.Fatalf("the test is wrong: %d trails end where they began, %d go over bridges", back, overBridges)
	}
}

// P97, P98, P103: all nets of at most six knots.
func TestTrailsOfAllSmallNets(t *testing.T) {
	t.Parallel()
	for g := range allGrids(6) {
		expectTrails(t, g, -1, g.knots)
	}
}

// P97, P98, P103: greater ones.
func TestTrailsOfGreaterNets(t *testing.T) {
	t.Parallel()
	for g := range trailGrids() {
		expectTrails(t, g, -1, g.knots)
	}
	for _, g := range slices.Concat(allShapes(), earShapes(), sideShapes(), pairShapes(), trailShapes()) {
		expectTrails(t, g, places()...)
	}
}

// P97, P98, P103: of nets of few ties by all trails that there are, in order, so that the first that one meets is the first.
func TestTrailsByAllThatThereAre(t *testing.T) {
	t.Parallel()
	several := 0
	for g := range trailGrids() {
		if !g.fewTies() {
			continue
		}
		n := g.net()
		for from := range g.knots {
			all := slices.Collect(g.trails(from))
			row, ok := impl.TrailOf(n, from)
			if ok != (len(all) > 0) || ok && !slices.Equal(row, all[0]) {
				t.Fatalf("TrailOf %v %d: %v %v, but these are all: %v", n, from, row, ok, all)
			}
			if !slices.IsSortedFunc(all, slices.Compare[[]int]) {
				t.Fatalf("the test is wrong: %v are out of order", all)
			}
			if len(all) > 1 {
				several++
			}
		}
	}
	if several < 1000 {
		t.Fatalf("the test is wrong: but from %d knots there are several", several)
	}
}

// expectTrails holds what is told of all knots, and of some numbers that may be none, against a second reckoning.
func expectTrails(t *testing.T, g grid, more ...int) {
	t.Helper()
	n := g.net()
	for _, from := range append(knotsOf(g.knots), more...) {
		want, can := g.trail(from)
		if is := impl.TrailCan(n, from); is != can {
			t.Fatalf("TrailCan %v %d: %v", n, from, is)
		}
		if row, ok := impl.TrailOf(n, from); ok != can || !slices.Equal(row, want) {
			t.Fatalf("TrailOf %v %d: %v %v, not %v %v", n, from, row, ok, want, can)
		}
	}
}

// trailOfSeven is the first trail of all pairs of the knots 0 to 6, begun at 0.
func trailOfSeven() []int {
	return []int{0, 1, 2, 0, 3, 1, 4, 0, 5, 1, 6, 2, 3, 4, 2, 5, 3, 6, 4, 5, 6, 0}
}

// The edges of TrailOf and TrailCan, each with what is answered written out; no row is none.
func TestTrailsAsWritten(t *testing.T) {
	ringsAtRow := netOf(7, 0, 1, 1, 2, 0, 2, 2, 3, 3, 4, 4, 5, 5, 6, 4, 6)
	ringsAtTie := netOf(6, 0, 1, 1, 2, 0, 2, 2, 3, 3, 4, 4, 5, 3, 5)
	ringFirst := netOf(5, 1, 2, 2, 3, 1, 3, 0, 3, 3, 4)
	inPart := netOf(8, 1, 3, 3, 5, 1, 5)
	sevenOfEight := impl.Net{Knots: impl.NetKnots, Ties: gridOf(7, math.MaxUint64).net().Ties}
	for _, c := range []struct {
		what string
		net  impl.Net
		from int
		row  []int
	}{
		{"no knots", impl.Net{}, 0, nil},
		{"no knots, begun below 0", impl.Net{}, -1, nil},
		{"no knots, an empty list", impl.Net{Ties: []impl.Tie{}}, 0, nil},
		{"one knot", impl.Net{Knots: 1}, 0, []int{0}},
		{"one knot, begun past the end", impl.Net{Knots: 1}, 1, nil},
		{"one knot, begun below 0", impl.Net{Knots: 1}, -1, nil},
		{"two knots, not tied", impl.Net{Knots: 2}, 0, []int{0}},
		{"two knots, not tied, from the other", impl.Net{Knots: 2}, 1, []int{1}},
		{"two knots, not tied, begun past the end", impl.Net{Knots: 2}, 2, nil},
		{"two knots, tied", netOf(2, 0, 1), 0, []int{0, 1}},
		{"two knots, tied, from the other", netOf(2, 0, 1), 1, []int{1, 0}},
		{"two knots, tied, begun past the end", netOf(2, 0, 1), 2, nil},
		{"two of three knots, tied, from the third", netOf(3, 0, 1), 2, nil},
		{"two of three knots, tied, the first alone", netOf(3, 1, 2), 0, nil},
		{"two of three knots, tied", netOf(3, 1, 2), 2, []int{2, 1}},
		{"three as a row", netOf(3, 0, 1, 1, 2), 0, []int{0, 1, 2}},
		{"three as a row, from its end", netOf(3, 0, 1, 1, 2), 2, []int{2, 1, 0}},
		{"three as a row, from its midst", netOf(3, 0, 1, 1, 2), 1, nil},
		{"three as a ring", netOf(3, 0, 1, 1, 2, 0, 2), 0, []int{0, 1, 2, 0}},
		{"three as a ring, from the second", netOf(3, 0, 1, 1, 2, 0, 2), 1, []int{1, 0, 2, 1}},
		{"three as a ring, from the last", netOf(3, 0, 1, 1, 2, 0, 2), 2, []int{2, 0, 1, 2}},
		{"a star of three, from its midst", netOf(4, 0, 1, 0, 2, 0, 3), 0, nil},
		{"a star of three, from an end", netOf(4, 0, 1, 0, 2, 0, 3), 1, nil},
		{"a ring of four", netOf(4, 0, 1, 1, 2, 2, 3, 0, 3), 0, []int{0, 1, 2, 3, 0}},
		{"a ring of four, from the last", netOf(4, 0, 1, 1, 2, 2, 3, 0, 3), 3, []int{3, 0, 1, 2, 3}},
		{"a ring of four, otherwise", netOf(4, 0, 2, 1, 2, 1, 3, 0, 3), 1, []int{1, 2, 0, 3, 1}},
		{"a ring of five", netOf(5, 0, 1, 1, 2, 2, 3, 3, 4, 0, 4), 2, []int{2, 1, 0, 4, 3, 2}},
		{"a ring of all", netOf(8, 0, 1, 1, 2, 2, 3, 3, 4, 4, 5, 5, 6, 6, 7, 0, 7), 0, []int{0, 1, 2, 3, 4, 5, 6, 7, 0}},
		{"a ring of all, from the last", netOf(8, 0, 1, 1, 2, 2, 3, 3, 4, 4, 5, 5, 6, 6, 7, 0, 7), 7, []int{7, 0, 1, 2, 3, 4, 5, 6, 7}},
		{"a ring of four with a tie across", netOf(4, 0, 1, 1, 2, 2, 3, 0, 3, 0, 2), 0, []int{0, 1, 2, 0, 3, 2}},
		{"a ring of four with a tie across, from the other end", netOf(4, 0, 1, 1, 2, 2, 3, 0, 3, 0, 2), 2, []int{2, 0, 1, 2, 3, 0}},
		{"a ring of four with a tie across, from where it is not", netOf(4, 0, 1, 1, 2, 2, 3, 0, 3, 0, 2), 1, nil},
		{"a ring of four with a tie across, from the other one where it is not", netOf(4, 0, 1, 1, 2, 2, 3, 0, 3, 0, 2), 3, nil},
		{"two rings that share a knot", netOf(5, 0, 1, 1, 2, 0, 2, 2, 3, 3, 4, 2, 4), 2, []int{2, 0, 1, 2, 3, 4, 2}},
		{"two rings that share a knot, from the first ring", netOf(5, 0, 1, 1, 2, 0, 2, 2, 3, 3, 4, 2, 4), 0, []int{0, 1, 2, 3, 4, 2, 0}},
		{"two rings that share a knot, where one can't come back", netOf(5, 0, 1, 1, 2, 0, 2, 2, 3, 3, 4, 2, 4), 1, []int{1, 0, 2, 3, 4, 2, 1}},
		{"two rings that share a knot, from the second ring", netOf(5, 0, 1, 1, 2, 0, 2, 2, 3, 3, 4, 2, 4), 4, []int{4, 2, 0, 1, 2, 3, 4}},
		{"three rings that share a knot", netOf(7, 0, 1, 1, 2, 0, 2, 0, 3, 3, 4, 0, 4, 0, 5, 5, 6, 0, 6), 5, []int{5, 0, 1, 2, 0, 3, 4, 0, 6, 5}},
		{"two rings that a tie joins, from it", ringsAtTie, 2, []int{2, 0, 1, 2, 3, 4, 5, 3}},
		{"two rings that a tie joins, from its other end", ringsAtTie, 3, []int{3, 4, 5, 3, 2, 0, 1, 2}},
		{"two rings that a tie joins, from a ring", ringsAtTie, 0, nil},
		{"two rings that a row joins, from it", ringsAtRow, 2, []int{2, 0, 1, 2, 3, 4, 5, 6, 4}},
		{"two rings that a row joins, from its other end", ringsAtRow, 4, []int{4, 5, 6, 4, 3, 2, 0, 1, 2}},
		{"two rings that a row joins, from its midst", ringsAtRow, 3, nil},
		{"two rings that a row joins, from a ring", ringsAtRow, 6, nil},
		{"a ring, and one that hangs from it", netOf(4, 0, 1, 1, 2, 0, 2, 2, 3), 2, []int{2, 0, 1, 2, 3}},
		{"a ring, and one that hangs from it, from that", netOf(4, 0, 1, 1, 2, 0, 2, 2, 3), 3, []int{3, 2, 0, 1, 2}},
		{"a ring, and one that hangs from it, from another one", netOf(4, 0, 1, 1, 2, 0, 2, 2, 3), 0, nil},
		{"a ring, and the least hangs from it", netOf(4, 0, 1, 1, 2, 2, 3, 1, 3), 1, []int{1, 2, 3, 1, 0}},
		{"a ring, and a row of the least hangs from it", netOf(5, 0, 1, 0, 2, 2, 3, 3, 4, 2, 4), 2, []int{2, 3, 4, 2, 0, 1}},
		{"two rings, and a row of the least hangs from both", severalTrails().net(), 2, []int{2, 3, 4, 2, 5, 6, 2, 0, 1}},
		{"two rings, and a row of the least hangs from both, from its end", severalTrails().net(), 1, []int{1, 0, 2, 3, 4, 2, 5, 6, 2}},
		{"a row through a ring, from the least", ringFirst, 0, []int{0, 3, 1, 2, 3, 4}},
		{"a row through a ring, from the greatest", ringFirst, 4, []int{4, 3, 1, 2, 3, 0}},
		{"a row through a ring, from the ring", ringFirst, 3, nil},
		{"two rings that two ties join, at one knot", netOf(6, 0, 1, 1, 2, 0, 2, 2, 3, 3, 4, 4, 5, 3, 5, 0, 3), 0, []int{0, 1, 2, 0, 3, 4, 5, 3, 2}},
		{"all pairs of four, from the first", gridOf(4, math.MaxUint64).net(), 0, nil},
		{"all pairs of four, from the second", gridOf(4, math.MaxUint64).net(), 1, nil},
		{"all pairs of four, from the third", gridOf(4, math.MaxUint64).net(), 2, nil},
		{"all pairs of four, from the last", gridOf(4, math.MaxUint64).net(), 3, nil},
		{"a ring of six with two ties across, from the end of one", netOf(6, 0, 1, 1, 2, 2, 3, 3, 4, 4, 5, 0, 5, 0, 3, 1, 4), 0, nil},
		{"a ring of six with two ties across, from none of their ends", netOf(6, 0, 1, 1, 2, 2, 3, 3, 4, 4, 5, 0, 5, 0, 3, 1, 4), 2, nil},
		{"all ties in one part, and knots alone", inPart, 1, []int{1, 3, 5, 1}},
		{"all ties in one part, and knots alone, from the last tied", inPart, 5, []int{5, 1, 3, 5}},
		{"all ties in one part, and knots alone, from the first alone", inPart, 0, nil},
		{"all ties in one part, and knots alone, from one alone in the midst", inPart, 4, nil},
		{"all ties in one part, and knots alone, from the last alone", inPart, 7, nil},
		{"all ties in one part, and knots alone, begun past the end", inPart, 8, nil},
		{"ties in two parts, from the one", netOf(4, 0, 1, 2, 3), 0, nil},
		{"ties in two parts, from the other", netOf(4, 0, 1, 2, 3), 3, nil},
		{"rings in two parts, from the one", netOf(6, 0, 1, 1, 2, 0, 2, 3, 4, 4, 5, 3, 5), 0, nil},
		{"rings in two parts, from the other", netOf(6, 0, 1, 1, 2, 0, 2, 3, 4, 4, 5, 3, 5), 4, nil},
		{"a ring and a tie, from the ring", netOf(5, 0, 1, 1, 2, 0, 2, 3, 4), 0, nil},
		{"a ring and a tie, from the tie", netOf(5, 0, 1, 1, 2, 0, 2, 3, 4), 3, nil},
		{"a row of all, to and fro", netOf(8, 0, 7, 1, 7, 1, 6, 2, 6, 2, 5, 3, 5, 3, 4), 0, []int{0, 7, 1, 6, 2, 5, 3, 4}},
		{"a row of all, to and fro, from its end", netOf(8, 0, 7, 1, 7, 1, 6, 2, 6, 2, 5, 3, 5, 3, 4), 4, []int{4, 3, 5, 2, 6, 1, 7, 0}},
		{"the last tie alone", netOf(8, 6, 7), 7, []int{7, 6}},
		{"all pairs of five", gridOf(5, math.MaxUint64).net(), 0, []int{0, 1, 2, 0, 3, 1, 4, 2, 3, 4, 0}},
		{"all pairs of five, from the last", gridOf(5, math.MaxUint64).net(), 4, []int{4, 0, 1, 2, 0, 3, 1, 4, 2, 3, 4}},
		{"all pairs of six", gridOf(6, math.MaxUint64).net(), 0, nil},
		{"all pairs of seven", gridOf(7, math.MaxUint64).net(), 0, trailOfSeven()},
		{"all pairs of seven, and one alone", sevenOfEight, 0, trailOfSeven()},
		{"all pairs of seven, and one alone, from that", sevenOfEight, 7, nil},
		{"all pairs", fullNet(), 0, nil},
		{"all pairs, from the last", fullNet(), 7, nil},
		{"all pairs but the first", gridOf(8, 1<<28-2).net(), 0, nil},
		{"all pairs but the first, from the third", gridOf(8, 1<<28-2).net(), 2, nil},
		{"all pairs but the last", gridOf(8, 1<<27-1).net(), 6, nil},
		{"all pairs but the last, from the first", gridOf(8, 1<<27-1).net(), 0, nil},
	} {
		if !impl.NetOk(c.net) {
			t.Fatalf("the test is wrong: %s", c.what)
		}
		can := c.row != nil
		if is := impl.TrailCan(c.net, c.from); is != can {
			t.Errorf("%s: TrailCan %v %d: %v", c.what, c.net, c.from, is)
		}
		if row, ok := impl.TrailOf(c.net, c.from); ok != can || !slices.Equal(row, c.row) {
			t.Errorf("%s: TrailOf %v %d: %v %v, not %v %v", c.what, c.net, c.from, row, ok, c.row, can)
		}
		if can != impl.TrailOk(c.net, c.row) {
			t.Errorf("%s: TrailOk %v %v: %v", c.what, c.net, c.row, !can)
		}
	}
}

// Without ties a trail begins at each knot, and is that alone.
func TestTrailsWithoutTies(t *testing.T) {
	for knots := range impl.NetKnots + 1 {
		n := impl.Net{Knots: knots}
		for _, from := range places() {
			can := from >= 0 && from < knots
			if impl.TrailCan(n, from) != can || impl.TrailOk(n, []int{from}) != can {
				t.Errorf("%v %d: TrailCan %v, TrailOk %v", n, from, impl.TrailCan(n, from), impl.TrailOk(n, []int{from}))
			}
			row, ok := impl.TrailOf(n, from)
			if ok != can || can && !slices.Equal(row, []int{from}) || !can && len(row) > 0 {
				t.Errorf("TrailOf %v %d: %v %v", n, from, row, ok)
			}
		}
		if impl.TrailOk(n, nil) || impl.TrailOk(n, []int{}) {
			t.Errorf("TrailOk %v: no row at all is one", n)
		}
	}
}

// Numbers that are no knots: false, and nothing and false, whatever the net.
func TestTrailsFromWhatIsNoKnot(t *testing.T) {
	t.Parallel()
	for g := range trailGrids() {
		n := g.net()
		for _, from := range places() {
			if g.isKnot(from) {
				continue
			}
			if row, ok := impl.TrailOf(n, from); impl.TrailCan(n, from) || ok || len(row) > 0 {
				t.Fatalf("%v %d: TrailCan %v, TrailOf %v %v", n, from, impl.TrailCan(n, from), row, ok)
			}
		}
	}
}

// Rows that are a trail, or are none, each for one reason.
func TestRowsThatAreTrailsOrNot(t *testing.T) {
	// A ring of four with a tie across, and one that hangs from one of its ends; one alone.
	n := netOf(6, 0, 1, 0, 2, 0, 3, 1, 2, 2, 3, 2, 4)
	ring, row := netOf(3, 0, 1, 1, 2, 0, 2), netOf(3, 0, 1, 1, 2)
	for _, c := range []struct {
		what string
		net  impl.Net
		row  []int
		want bool
	}{
		{"a trail", n, []int{0, 1, 2, 0, 3, 2, 4}, true},
		{"a trail turned about", n, []int{4, 2, 3, 0, 2, 1, 0}, true},
		{"another trail", n, []int{0, 3, 2, 1, 0, 2, 4}, true},
		{"no row at all", n, nil, false},
		{"an empty row", n, []int{}, false},
		{"no row at all, of no knots", impl.Net{}, nil, false},
		{"no row at all, of one knot", impl.Net{Knots: 1}, nil, false},
		{"one knot alone, of no knots", impl.Net{}, []int{0}, false},
		{"one knot alone, of one", impl.Net{Knots: 1}, []int{0}, true},
		{"one knot alone, the last of all", impl.Net{Knots: impl.NetKnots}, []int{impl.NetKnots - 1}, true},
		{"one knot alone, past the end", impl.Net{Knots: 1}, []int{1}, false},
		{"one knot alone, past the end of all", impl.Net{Knots: impl.NetKnots}, []int{impl.NetKnots}, false},
		{"one knot alone, below 0", impl.Net{Knots: 1}, []int{-1}, false},
		{"one knot alone, far below 0", impl.Net{Knots: 1}, []int{math.MinInt}, false},
		{"one knot alone, a power of two past the end", impl.Net{Knots: 1}, []int{1 << 32}, false},
		{"one knot alone, where there are ties", n, []int{0}, false},
		{"one knot alone, which has no ties, where there are others", n, []int{5}, false},
		{"one knot twice, without ties", impl.Net{Knots: 1}, []int{0, 0}, false},
		{"two knots without ties", impl.Net{Knots: 2}, []int{0, 1}, false},
		{"a tie", netOf(2, 0, 1), []int{0, 1}, true},
		{"a tie, the other way", netOf(2, 0, 1), []int{1, 0}, true},
		{"a tie, there and back", netOf(2, 0, 1), []int{0, 1, 0}, false},
		{"a tie, three times", netOf(2, 0, 1), []int{0, 1, 0, 1}, false},
		{"a tie, and its end twice", netOf(2, 0, 1), []int{0, 1, 1}, false},
		{"a tie, and its beginning twice", netOf(2, 0, 1), []int{0, 0, 1}, false},
		{"an end of a tie", netOf(2, 0, 1), []int{1}, false},
		{"a ring", ring, []int{0, 1, 2, 0}, true},
		{"a ring from the last", ring, []int{2, 1, 0, 2}, true},
		{"a ring as a way, without its last tie", ring, []int{0, 1, 2}, false},
		{"a ring, and on", ring, []int{0, 1, 2, 0, 1}, false},
		{"a ring twice", ring, []int{0, 1, 2, 0, 1, 2, 0}, false},
		{"as many knots as a ring, over a tie twice", ring, []int{0, 1, 0, 2}, false},
		{"as many knots as a ring, over a tie there and back at the end", ring, []int{0, 1, 2, 1}, false},
		{"a row", row, []int{2, 1, 0}, true},
		{"a row from its midst", row, []int{1, 0, 1, 2}, false},
		{"a row's ends", row, []int{0, 2}, false},
		{"a row's knots, out of order", row, []int{1, 0, 2}, false},
		{"a tie over twice, as long as a trail", n, []int{0, 1, 2, 0, 1, 2, 4}, false},
		{"a tie over twice at the end, as long as a trail", n, []int{0, 1, 2, 0, 3, 2, 3}, false},
		{"a tie over twice, one knot more", n, []int{0, 1, 2, 0, 3, 2, 4, 2}, false},
		{"one too few, the last", n, []int{0, 1, 2, 0, 3, 2}, false},
		{"one too few, the first", n, []int{1, 2, 0, 3, 2, 4}, false},
		{"one too few, in the midst", n, []int{0, 1, 2, 3, 2, 4}, false},
		{"one too many, the last", n, []int{0, 1, 2, 0, 3, 2, 4, 5}, false},
		{"one too many, the first", n, []int{5, 0, 1, 2, 0, 3, 2, 4}, false},
		{"one too many, that is none, the last", n, []int{0, 1, 2, 0, 3, 2, 4, 6}, false},
		{"one too many, that is none, the first", n, []int{-1, 0, 1, 2, 0, 3, 2, 4}, false},
		{"one too many, tied, but over that one was", n, []int{2, 0, 1, 2, 0, 3, 2, 4}, false},
		{"a tie that is none of the net, in the midst", n, []int{0, 1, 3, 0, 2, 3, 2, 4}, false},
		{"a tie that is none of the net, for one that is", n, []int{0, 1, 2, 0, 3, 1, 4}, false},
		{"a tie that is none of the net, as the last", n, []int{0, 1, 2, 0, 3, 2, 5}, false},
		{"a tie that is none of the net, as the first", n, []int{4, 1, 2, 0, 3, 2, 4}, false},
		{"two neighbours that are the same, at the beginning", n, []int{0, 0, 1, 2, 0, 3, 2, 4}, false},
		{"two neighbours that are the same, in the midst", n, []int{0, 1, 2, 2, 0, 3, 2, 4}, false},
		{"two neighbours that are the same, at the end", n, []int{0, 1, 2, 0, 3, 2, 4, 4}, false},
		{"two neighbours that are the same, as long as a trail", n, []int{0, 1, 2, 0, 3, 2, 2}, false},
		{"a knot that is none, in the midst", n, []int{0, 1, 2, 0, 6, 2, 4}, false},
		{"a knot that is none, as the last", n, []int{0, 1, 2, 0, 3, 2, 8}, false},
		{"a knot below 0, as the first", n, []int{-1, 1, 2, 0, 3, 2, 4}, false},
		{"a knot far past the end, in the midst", n, []int{0, 1, math.MaxInt, 0, 3, 2, 4}, false},
		{"a knot that is a power of two past one", n, []int{0, 1, 1<<32 + 2, 0, 3, 2, 4}, false},
		{"a knot that is eight past one", n, []int{8, 1, 2, 0, 3, 2, 4}, false},
		{"ties in two parts, over each", netOf(4, 0, 1, 2, 3), []int{0, 1, 2, 3}, false},
		{"ties in two parts, over those of one", netOf(4, 0, 1, 2, 3), []int{0, 1}, false},
		{"rings in two parts, over each", netOf(6, 0, 1, 1, 2, 0, 2, 3, 4, 4, 5, 3, 5), []int{0, 1, 2, 0, 3, 4, 5, 3}, false},
		{"rings in two parts, over one", netOf(6, 0, 1, 1, 2, 0, 2, 3, 4, 4, 5, 3, 5), []int{3, 4, 5, 3}, false},
		{"all pairs of seven", gridOf(7, math.MaxUint64).net(), trailOfSeven(), true},
		{"all pairs of seven, turned about", gridOf(7, math.MaxUint64).net(), turned(trailOfSeven()), true},
		{"all pairs of seven, and one alone", impl.Net{Knots: 8, Ties: gridOf(7, math.MaxUint64).net().Ties}, trailOfSeven(), true},
		{"all pairs of seven, over those of eight", fullNet(), trailOfSeven(), false},
		{"all pairs of seven, without the last", gridOf(7, math.MaxUint64).net(), trailOfSeven()[:21], false},
		{"all pairs, over some again and again", fullNet(), slices.Repeat([]int{0, 1, 2, 3, 4, 5, 6, 7}, 5), false},
		{"a great many knots", n, slices.Repeat([]int{0, 1, 2}, 10000), false},
		{"one knot a great many times", impl.Net{Knots: 1}, make([]int, 10000), false},
	} {
		if !impl.NetOk(c.net) {
			t.Fatalf("the test is wrong: %s", c.what)
		}
		if impl.TrailOk(c.net, c.row) != c.want {
			t.Errorf("%s: TrailOk %v %v: %v", c.what, c.net, c.row, !c.want)
		}
	}
}

func expectTrailOk(t *testing.T, g grid, n impl.Net, row []int) {
	t.Helper()
	if want := g.isTrail(row); impl.TrailOk(n, row) != want {
		t.Fatalf("TrailOk %v %v: %v", n, row, !want)
	}
}

// TrailOk of all short rows of numbers, those that are no knots among them, by the document's words.
func TestTrailOkOfAllShortRows(t *testing.T) {
	t.Parallel()
	for knots := range 5 {
		numbers := []int{-1}
		for k := 0; k <= knots; k++ {
			numbers = append(numbers, k)
		}
		rows := rowsOfNumbers(numbers, 5)
		for chosen := range uint64(1) << len(pairsOf(knots)) {
			g := gridOf(knots, chosen)
			n := g.net()
			for _, row := range rows {
				expectTrailOk(t, g, n, row)
			}
		}
	}
}

// TrailOk of trails with one number changed, left out, or put in; with two changed for each other; turned about; and twice, one behind the other.
func TestTrailOkOfRowsNearTrails(t *testing.T) {
	t.Parallel()
	r := numbers(98)
	for _, g := range slices.Concat(trailShapes(), shapes(), earShapes()) {
		n := g.net()
		for from := range g.knots {
			if !g.canTrail(from) {
				continue
			}
			row := g.someTrail(from, &r)
			rows := append(rowsNear(row), row, turned(row), slices.Concat(row, row), slices.Concat(row, turned(row)[1:]))
			for i := range row {
				for j := range i {
					changed := slices.Clone(row)
					changed[i], changed[j] = row[j], row[i]
					rows = append(rows, changed)
				}
				for _, k := range places() {
					changed := slices.Clone(row)
					changed[i] = k
					rows = append(rows, changed)
				}
				// A piece between two places, turned about.
				for j := i + 1; j < len(row); j++ {
					rows = append(rows, slices.Concat(row[:i], turned(row[i:j+1]), row[j+1:]))
				}
			}
			for _, near := range rows {
				expectTrailOk(t, g, n, near)
			}
		}
	}
}

// TrailOk of rows that go over ties, as long as a trail is, but of nets that have a tie less, or one more.
func TestTrailOkOfTrailsOfOtherNets(t *testing.T) {
	t.Parallel()
	r := numbers(99)
	for g := range trailGrids() {
		for from := range g.knots {
			if !g.canTrail(from) || r.below(4) > 0 {
				continue
			}
			row := g.someTrail(from, &r)
			for _, tie := range pairsOf(g.knots) {
				other := g.set(tie.A, tie.B, !g.has(tie.A, tie.B))
				if impl.TrailOk(other.net(), row) {
					t.Fatalf("TrailOk %v %v: true, though it is a trail of %v", other.net(), row, g.net())
				}
			}
			fewer := impl.Net{Knots: slices.Max(row) + 1, Ties: g.net().Ties}
			if !impl.TrailOk(fewer, row) || impl.TrailOk(impl.Net{Knots: fewer.Knots - 1, Ties: fewer.Ties}, row) {
				t.Fatalf("TrailOk %v %v: %v, and with a knot less the other", fewer, row, impl.TrailOk(fewer, row))
			}
		}
	}
}

// Of nets that are not ok, with what would be trails of many of them if the fault were passed over.
func TestTrailsOfNetsThatAreNotOk(t *testing.T) {
	for _, bad := range badTrailNets() {
		if impl.NetOk(bad.net) {
			t.Fatalf("the test is wrong: %s", bad.name)
		}
		for _, from := range places() {
			if impl.TrailCan(bad.net, from) {
				t.Errorf("TrailCan, %s: %d", bad.name, from)
			}
			if row, ok := impl.TrailOf(bad.net, from); ok || len(row) > 0 {
				t.Errorf("TrailOf, %s: %d: %v %v", bad.name, from, row, ok)
			}
			if impl.TrailOk(bad.net, []int{from}) {
				t.Errorf("TrailOk, %s: %d", bad.name, from)
			}
		}
		rows := [][]int{nil, {}, {-1, 0, 1}, {0, 1, 2, 3}, {0, 1, 2, 3, 0}, {0, 1, 2, 0, 1}, {0, 1, 2, 2}, {0, 1, 2, 0, 3}, {1, 2, 0, 1, 2}, {0, 1, 2, 3, 4, 2, 0}, knotsOf(9), trailOfSeven()}
		for _, from := range knotsOf(3) {
			for _, to := range knotsOf(3) {
				rows = append(rows, []int{from, to}, []int{from, to, from}, []int{from, to, 3 - from - to}, []int{from, to, 3 - from - to, from})
			}
		}
		for _, tie := range bad.net.Ties[:min(len(bad.net.Ties), 30)] {
			rows = append(rows, []int{tie.A, tie.B}, []int{tie.B, tie.A}, []int{tie.A, tie.B, tie.A})
		}
		for _, row := range rows {
			if impl.TrailOk(bad.net, row) {
				t.Errorf("TrailOk, %s: %v", bad.name, row)
			}
		}
	}
}

func expectTrailsApart(t *testing.T, n impl.Net) {
	t.Helper()
	arg, whole := roomy(n)
	before := slices.Clone(whole)
	type says struct {
		can, ok bool
		row     []int
	}
	ask := func(n impl.Net) []says {
		var out []says
		for from := -1; from <= impl.NetKnots; from++ {
			row, ok := impl.TrailOf(n, from)
			out = append(out, says{impl.TrailCan(n, from), ok, row})
		}
		return out
	}
	rowsIn := func(list []says) [][]int {
		var out [][]int
		for _, s := range list {
			out = append(out, s.row)
		}
		return out
	}
	first := ask(arg)
	want := cloneLists(rowsIn(first))
	expectSame := func(what string, n impl.Net) []says {
		t.Helper()
		again := ask(n)
		for i, s := range again {
			if s.can != first[i].can || s.ok != first[i].ok || !slices.Equal(s.row, want[i]) {
				t.Fatalf("%v: asked %s about %d it answers %v, %v and %v, not %v, %v and %v", n, what, i-1, s.can, s.ok, s.row, first[i].can, first[i].ok, want[i])
			}
		}
		return again
	}
	again := expectSame("again", arg)
	if !slices.Equal(whole, before) {
		t.Fatalf("%v: an argument was changed", n)
	}
	expectListsApart(t, "trails", append(rowsIn(first), rowsIn(again)...))
	if !slices.Equal(whole, before) {
		t.Fatalf("%v: an answer shares memory with its argument", n)
	}
	// Nothing is kept: whatever was written into answers, all is as it was.
	expectSame("behind that", arg)
	// The net is looked at alone, not the room behind its ties.
	expectSame("by the room of its ties", impl.Net{Knots: n.Knots, Ties: slices.Clip(slices.Clone(n.Ties))})
}

func TestMemoryOfTrailsIsApart(t *testing.T) {
	t.Parallel()
	for g := range trailGrids() {
		expectTrailsApart(t, g.net())
	}
	for _, bad := range badTrailNets() {
		expectTrailsApart(t, bad.net)
	}
}

// Rows that are asked about are not changed, nor what lies behind their end, and their room is not looked at.
func TestRowsThatAreAskedAboutAsTrailsAreNotChanged(t *testing.T) {
	rows := [][]int{nil, {}, {0}, {1}, {-1}, {8}, {0, 1}, {1, 0}, {0, 0}, {0, 1, 2}, {2, 1, 0}, {0, 1, 2, 0}, {0, 1, 2, 3, 0}, {3, 2, 1, 0, 3}, {0, 1, 2, 3}, {0, 1, 0, 1}, trailOfSeven(), turned(trailOfSeven())}
	for _, n := range []impl.Net{fullNet(), gridOf(7, math.MaxUint64).net(), netOf(2, 0, 1), netOf(3, 0, 1, 1, 2), netOf(3, 0, 1, 1, 2, 0, 2), netOf(4, 0, 1, 1, 2, 2, 3, 0, 3), {}, {Knots: 1}, {Knots: 8}, {Knots: 99}, {Knots: -1}, {Knots: 3, Ties: tiesOf(1, 2, 0, 1)}} {
		for _, row := range rows {
			arg, whole := roomyRow(row)
			net, ties := roomy(n)
			before, tiesBefore := slices.Clone(whole), slices.Clone(ties)
			first := impl.TrailOk(net, arg)
			if first != impl.TrailOk(net, arg) {
				t.Errorf("%v: %v is a trail or not by how often it is asked", n, row)
			}
			if first != impl.TrailOk(n, slices.Clip(slices.Clone(row))) {
				t.Errorf("%v: %v is a trail or not by its room", n, row)
			}
			if !slices.Equal(whole, before) || !slices.Equal(ties, tiesBefore) {
				t.Errorf("%v: asked about %v, an argument was changed", n, row)
			}
		}
	}
	// What lies behind the end of a row, in its room, is none of it: here it would be the rest of a trail, or one too many.
	whole := []int{0, 1, 2, 3, 2}
	if n := netOf(4, 0, 1, 1, 2, 2, 3); impl.TrailOk(n, whole[:3]) || !impl.TrailOk(n, whole[:4]) || impl.TrailOk(n, whole) || impl.TrailOk(n, whole[:0]) {
		t.Error("TrailOk looks behind the end of the row")
	}
}

// What is asked in between changes nothing: nothing is kept between two calls.
func TestTrailsAreThoseOfTheNetThatIsAsked(t *testing.T) {
	t.Parallel()
	for _, g := range trailShapes() {
		for _, other := range trailShapes() {
			for from := range other.knots {
				impl.TrailCan(other.net(), from)
				row, _ := impl.TrailOf(other.net(), from)
				impl.TrailOk(other.net(), row)
			}
			expectTrails(t, g)
		}
	}
}
