package tests

import (
	"math"
	"slices"
	"testing"

	"loop.example/osier/impl"
)

// P57: by what the program itself says of bridges.
func TestTogetherWithoutBridgesJustIfTwoWaysHaveNoTieTwice(t *testing.T) {
	t.Parallel()
	for g := range flowGrids() {
		n := g.net()
		parts := impl.BridgeParts(n)
		for a, b := range pairsEitherWay(g.knots) {
			if count := impl.FlowCount(n, a, b); (count >= 2) != (parts[a] == parts[b]) {
				t.Fatalf("FlowCount %v %d %d: %d, of parts without bridges %v", n, a, b, count, parts)
			}
		}
	}
}

// P57: by any two of all ways.
func TestTogetherWithoutBridgesJustIfAnyTwoWaysAreOk(t *testing.T) {
	t.Parallel()
	for g := range flowGrids() {
		if !g.fewWays() {
			continue
		}
		n := g.net()
		parts := impl.BridgeParts(n)
		for a, b := range pairsEitherWay(g.knots) {
			all, found := impl.WayAll(n, a, b), false
			for i, x := range all {
				for _, y := range all[:i] {
					found = found || impl.FlowOk(n, a, b, [][]int{x, y})
				}
			}
			if found != (parts[a] == parts[b]) {
				t.Fatalf("%v: two ways from %d to %d that have no tie twice: %v, of parts without bridges %v", n, a, b, found, parts)
			}
		}
	}
}

// P58: by what the program itself says of bridges.
func TestABridgeThatIsToldPartsBoth(t *testing.T) {
	t.Parallel()
	for g := range flowGrids() {
		n := g.net()
		for a, b := range pairsEitherWay(g.knots) {
			tie, ok := impl.BridgeApart(n, a, b)
			if ok && !impl.FlowParts(n, a, b, []impl.Tie{tie}) {
				t.Fatalf("FlowParts %v %d %d of the bridge %v: false", n, a, b, tie)
			}
			if count := impl.FlowCount(n, a, b); ok != (count == 1) {
				t.Fatalf("FlowCount %v %d %d: %d, though a bridge is told: %v", n, a, b, count, ok)
			}
		}
	}
}

// P59: of ways that are taken from all as they come.
func TestWaysInAnyOrderTurnedAboutAndWithOneLess(t *testing.T) {
	t.Parallel()
	r := numbers(59)
	for g := range flowGrids() {
		n := g.net()
		for a, b := range pairsEitherWay(g.knots) {
			ways := someFlow(impl.WayAll(n, a, b), &r)
			if !impl.FlowOk(n, a, b, ways) || !impl.FlowOk(n, a, b, shuffled(ways, &r)) || !impl.FlowOk(n, a, b, turned(ways)) {
				t.Fatalf("FlowOk %v %d %d %v, or in another order: false", n, a, b, ways)
			}
			if !impl.FlowOk(n, b, a, turnedWays(ways)) {
				t.Fatalf("FlowOk %v %d %d of %v turned about: false", n, b, a, ways)
			}
			if len(ways) > 0 && (impl.FlowOk(n, b, a, ways) || impl.FlowOk(n, a, b, turnedWays(ways))) {
				t.Fatalf("FlowOk %v of %v, which lead elsewhere: true", n, ways)
			}
			for i, way := range ways {
				if !impl.FlowOk(n, a, b, without(ways, i)) {
					t.Fatalf("FlowOk %v %d %d of %v without %v: false", n, a, b, ways, way)
				}
				for at := 0; at <= len(ways); at++ {
					if twice := slices.Insert(slices.Clone(ways), at, way); impl.FlowOk(n, a, b, twice) {
						t.Fatalf("FlowOk %v %d %d %v: true", n, a, b, twice)
					}
				}
			}
		}
	}
}

// P60: as many, by what the program says of the cut.
func TestAsManyWaysAsTiesMustBeCut(t *testing.T) {
	t.Parallel()
	r := numbers(60)
	for g := range flowGrids() {
		n := g.net()
		for a, b := range pairsEitherWay(g.knots) {
			count := impl.FlowCount(n, a, b)
			list, ok := impl.FlowCut(n, a, b)
			if !ok || len(list) != count || !impl.FlowParts(n, a, b, list) || !g.areCut(a, b, list) {
				t.Fatalf("FlowCut %v %d %d: %v %v, of %d ways", n, a, b, list, ok, count)
			}
			if ways := someFlow(impl.WayAll(n, a, b), &r); len(ways) > count {
				t.Fatalf("FlowCount %v %d %d: %d, though there are %v", n, a, b, count, ways)
			}
		}
	}
}

// P60: no ways are more, and so many there are: each choice of all ways is tried.
func TestSoManyWaysThereAre(t *testing.T) {
	t.Parallel()
	for g := range flowGrids() {
		if !g.fewWays() {
			continue
		}
		n := g.net()
		for a, b := range pairsEitherWay(g.knots) {
			most := mostOf(masksOf(impl.WayAll(n, a, b)))
			if count := impl.FlowCount(n, a, b); count != most {
				t.Fatalf("FlowCount %v %d %d: %d, not %d", n, a, b, count, most)
			}
		}
	}
}

// P60: the same by FlowOk alone, which ways are told to one by one.
func TestNoWaysThatAreOkAreMore(t *testing.T) {
	t.Parallel()
	for g := range allGrids(4) {
		n := g.net()
		for a, b := range pairsEitherWay(g.knots) {
			all := impl.WayAll(n, a, b)
			most := 0
			for chosen := range 1 << len(all) {
				var ways [][]int
				for i, way := range all {
					if chosen>>i&1 != 0 {
						ways = append(ways, way)
					}
				}
				if ok := impl.FlowOk(n, a, b, ways); ok != g.isFlow(a, b, ways) {
					t.Fatalf("FlowOk %v %d %d %v: %v", n, a, b, ways, ok)
				} else if ok {
					most = max(most, len(ways))
				}
			}
			if count := impl.FlowCount(n, a, b); count != most {
				t.Fatalf("FlowCount %v %d %d: %d, not %d", n, a, b, count, most)
			}
		}
	}
}

// P61: of those that are told, and of all that are as few.
func TestWithoutAnyOfTheFewestBothAreNotParted(t *testing.T) {
	t.Parallel()
	for g := range flowGrids() {
		n, crossings := g.net(), g.crossings()
		for a, b := range pairsEitherWay(g.knots) {
			list, _ := impl.FlowCut(n, a, b)
			for _, few := range append(fewestOf(crossings, a, b), list) {
				if !impl.FlowParts(n, a, b, few) {
					t.Fatalf("FlowParts %v %d %d %v: false", n, a, b, few)
				}
				for i := range few {
					if left := without(few, i); impl.FlowParts(n, a, b, left) {
						t.Fatalf("FlowParts %v %d %d %v: true", n, a, b, left)
					}
				}
			}
		}
	}
}

// P62: of all choices of ties, of nets that have few; and FlowParts of each.
func TestWhatPartsBothIsNotFewer(t *testing.T) {
	t.Parallel()
	for g := range allGrids(5) {
		n := g.net()
		for list := range subsets(n.Ties) {
			left := g.by(others(n.Ties, list)).parts()
			for a := range g.knots {
				for b := range a {
					if want := left[a] != left[b]; impl.FlowParts(n, a, b, list) != want {
						t.Fatalf("FlowParts %v %d %d %v: %v", n, a, b, list, !want)
					}
				}
			}
		}
		for a := range g.knots {
			for b := range a {
				told, _ := impl.FlowCut(n, a, b)
				if best := firstThatParts(g, a, b); !slices.Equal(told, best) {
					t.Fatalf("FlowCut %v %d %d: %v, though %v parts both", n, a, b, told, best)
				}
			}
		}
	}
}

// firstThatParts is the first of the fewest of all choices of ties that part two knots.
func firstThatParts(g grid, a, b int) []impl.Tie {
	ties := g.net().Ties
	best := ties
	for list := range subsets(ties) {
		if fewer(list, best) && !g.by(others(ties, list)).onePart(a, b) {
			best = list
		}
	}
	return best
}

// P62: by all that parts knots from others, which has what parts two of them, or more.
func TestWhatPartsBothDoesNotStandAhead(t *testing.T) {
	t.Parallel()
	for g := range flowGrids() {
		n, crossings := g.net(), g.crossings()
		for a, b := range pairsEitherWay(g.knots) {
			told, _ := impl.FlowCut(n, a, b)
			for side, list := range crossings {
				between := side>>a&1 != side>>b&1
				if between && (!impl.FlowParts(n, a, b, list) || fewer(list, told)) {
					t.Fatalf("FlowCut %v %d %d: %v, ahead of which %v stands, or it does not part both", n, a, b, told, list)
				}
			}
		}
	}
}

// P60, P62: all nets of at most six knots.
func TestFlowsOfAllSmallNets(t *testing.T) {
	t.Parallel()
	for g := range allGrids(6) {
		n, crossings := g.net(), g.crossings()
		weak := math.MaxInt
		for a := range g.knots {
			for b := range a {
				want := cutOf(crossings, a, b)
				weak = min(weak, len(want))
				if count := impl.FlowCount(n, b, a); count != len(want) {
					t.Fatalf("FlowCount %v %d %d: %d, not %d", n, b, a, count, len(want))
				}
				if list, ok := impl.FlowCut(n, a, b); !ok || !slices.Equal(list, want) {
					t.Fatalf("FlowCut %v %d %d: %v %v, not %v", n, a, b, list, ok, want)
				}
			}
		}
		if g.knots < 2 {
			weak = -1
		}
		if got := impl.FlowWeak(n); got != weak {
			t.Fatalf("FlowWeak %v: %d, not %d", n, got, weak)
		}
	}
}

// P60, P62: greater ones, and numbers that are no knots.
func TestFlowsOfAnyTwo(t *testing.T) {
	t.Parallel()
	for _, g := range append(slices.Collect(grids()), allShapes()...) {
		n, crossings := g.net(), g.crossings()
		for _, a := range places() {
			for _, b := range places() {
				wantCount, wantOk := -1, g.areTwoKnots(a, b)
				var want []impl.Tie
				if wantOk {
					want = cutOf(crossings, a, b)
					wantCount = len(want)
				}
				if count := impl.FlowCount(n, a, b); count != wantCount {
					t.Fatalf("FlowCount %v %d %d: %d, not %d", n, a, b, count, wantCount)
				}
				if list, ok := impl.FlowCut(n, a, b); ok != wantOk || !slices.Equal(list, want) {
					t.Fatalf("FlowCut %v %d %d: %v %v, not %v %v", n, a, b, list, ok, want, wantOk)
				}
				if impl.FlowOk(n, a, b, nil) != wantOk || impl.FlowOk(n, a, b, [][]int{}) != wantOk {
					t.Fatalf("FlowOk %v %d %d of no ways: not %v", n, a, b, wantOk)
				}
				if impl.FlowParts(n, a, b, n.Ties) != wantOk {
					t.Fatalf("FlowParts %v %d %d of all ties: not %v", n, a, b, wantOk)
				}
			}
		}
	}
}

// P63.
func TestFromOneToTheOtherIsAsFromTheOtherToTheOne(t *testing.T) {
	t.Parallel()
	r := numbers(63)
	for g := range flowGrids() {
		n := g.net()
		for a := range g.knots {
			for b := range a {
				if there, back := impl.FlowCount(n, a, b), impl.FlowCount(n, b, a); there != back {
					t.Fatalf("FlowCount %v %d %d: %d, and the other way %d", n, a, b, there, back)
				}
				there, ok := impl.FlowCut(n, a, b)
				back, too := impl.FlowCut(n, b, a)
				if !ok || !too || !slices.Equal(there, back) {
					t.Fatalf("FlowCut %v %d %d: %v %v, and the other way %v %v", n, a, b, there, ok, back, too)
				}
				for range 4 {
					list := slices.Clone(shuffled(n.Ties, &r)[:r.below(len(n.Ties)+1)])
					slices.SortFunc(list, compareTies)
					want := g.areCut(a, b, list)
					if impl.FlowParts(n, a, b, list) != want || impl.FlowParts(n, b, a, list) != want {
						t.Fatalf("FlowParts %v %d %d %v, or the other way: %v", n, a, b, list, !want)
					}
				}
			}
		}
	}
}

// P64.
func TestATieMoreLetsOneWayMoreBeOrAsMany(t *testing.T) {
	t.Parallel()
	for g := range flowGrids() {
		n := g.net()
		for _, tie := range others(pairsOf(g.knots), n.Ties) {
			more, _ := impl.NetAdd(n, tie.A, tie.B)
			for a := range g.knots {
				for b := range a {
					was, is := impl.FlowCount(n, a, b), impl.FlowCount(more, a, b)
					if is != was && is != was+1 {
						t.Fatalf("FlowCount %v %d %d: %d, with %v %d", n, a, b, was, tie, is)
					}
					// A tie of both is a way by itself.
					if tie == tieOf(a, b) && is != was+1 {
						t.Fatalf("FlowCount %v %d %d: %d, with both tied %d", n, a, b, was, is)
					}
				}
			}
		}
	}
}

// P65: by what the program itself says of bridges and parts.
func TestJustOneWayJustIfABridgePartsBoth(t *testing.T) {
	t.Parallel()
	for g := range flowGrids() {
		n := g.net()
		parts := impl.WayParts(n)
		for a, b := range pairsEitherWay(g.knots) {
			count := impl.FlowCount(n, a, b)
			list, ok := impl.FlowCut(n, a, b)
			bridge, apart := impl.BridgeApart(n, a, b)
			if (count == 1) != apart || apart && (!ok || !slices.Equal(list, []impl.Tie{bridge})) {
				t.Fatalf("%v, %d and %d: %d ways, the cut %v %v, the bridge %v %v", n, a, b, count, list, ok, bridge, apart)
			}
			if (count == 0) != (parts[a] != parts[b]) || count == 0 && (!ok || len(list) > 0) {
				t.Fatalf("%v, %d and %d: %d ways, the cut %v %v, of parts %v", n, a, b, count, list, ok, parts)
			}
		}
	}
}

// P66.
func TestNoFewerThanTheFewerByAThirdKnot(t *testing.T) {
	t.Parallel()
	for g := range flowGrids() {
		n := g.net()
		var counts [impl.NetKnots][impl.NetKnots]int
		for a, b := range pairsEitherWay(g.knots) {
			counts[a][b] = impl.FlowCount(n, a, b)
		}
		for a, b := range pairsEitherWay(g.knots) {
			for c := range g.knots {
				if c != a && c != b && counts[a][b] < min(counts[a][c], counts[c][b]) {
					t.Fatalf("%v: %d ways from %d to %d, by %d %d and %d", n, counts[a][b], a, b, c, counts[a][c], counts[c][b])
				}
			}
		}
	}
}

// P67: by what the program itself says of two ways that are apart.
func TestNoMoreWaysThanEitherKnotHasTies(t *testing.T) {
	t.Parallel()
	for g := range flowGrids() {
		n := g.net()
		for a, b := range pairsEitherWay(g.knots) {
			count := impl.FlowCount(n, a, b)
			if count < 0 || count > min(g.tieCount(a), g.tieCount(b)) {
				t.Fatalf("FlowCount %v %d %d: %d", n, a, b, count)
			}
			x, y, ok := impl.TwoFind(n, a, b)
			if ok && (count < 2 || !impl.FlowOk(n, a, b, [][]int{x, y})) {
				t.Fatalf("FlowCount %v %d %d: %d, or FlowOk is false, though %v and %v are apart", n, a, b, count, x, y)
			}
		}
	}
}

// P68: by what the program itself says of any two knots.
func TestFlowWeakIsTheLeastOfAllFlowCounts(t *testing.T) {
	t.Parallel()
	for g := range flowGrids() {
		n := g.net()
		least := math.MaxInt
		for a, b := range pairsEitherWay(g.knots) {
			least = min(least, impl.FlowCount(n, a, b))
		}
		if g.knots < 2 {
			least = -1
		}
		if weak := impl.FlowWeak(n); weak != least {
			t.Fatalf("FlowWeak %v: %d, not %d", n, weak, least)
		}
	}
}

// P69: by what the program itself says of parts and bridges.
func TestFlowWeakByPartsAndBridges(t *testing.T) {
	t.Parallel()
	for g := range flowGrids() {
		n := g.net()
		weak, parts, bridges := impl.FlowWeak(n), impl.WayCount(n), len(impl.BridgeList(n))
		if (weak == 0) != (parts > 1) || (weak == 1) != (parts == 1 && bridges > 0) {
			t.Fatalf("FlowWeak %v: %d, of %d parts and %d bridges", n, weak, parts, bridges)
		}
	}
}

// P70: of those that are told, and of all that are as few.
func TestWithOneOfTheFewestCutOneWayLessIsLeft(t *testing.T) {
	t.Parallel()
	for g := range flowGrids() {
		n, crossings := g.net(), g.crossings()
		for a := range g.knots {
			for b := range a {
				count := impl.FlowCount(n, a, b)
				list, _ := impl.FlowCut(n, a, b)
				for _, tie := range slices.Concat(append(fewestOf(crossings, a, b), list)...) {
					less, _ := impl.NetCut(n, tie.A, tie.B)
					if left := impl.FlowCount(less, a, b); left != count-1 {
						t.Fatalf("FlowCount %v %d %d: %d, and with %v cut %d", n, a, b, count, tie, left)
					}
				}
				for i, tie := range list {
					less, _ := impl.NetCut(n, tie.A, tie.B)
					if !impl.FlowParts(less, a, b, without(list, i)) {
						t.Fatalf("%v with %v cut: the others of %v do not part %d and %d", n, tie, list, a, b)
					}
				}
			}
		}
	}
}

// FlowOk of any one or two short rows, knots twice and numbers that are no knots among them, by the document's words.
func TestFlowOkOfAllShortRows(t *testing.T) {
	t.Parallel()
	for g := range allGrids(3) {
		n := g.net()
		numbers := []int{-1}
		for k := 0; k <= g.knots; k++ {
			numbers = append(numbers, k)
		}
		rows := rowsOfNumbers(numbers, 3)
		for _, a := range numbers {
			for _, b := range numbers {
				for _, x := range rows {
					expectFlowOk(t, g, n, a, b, [][]int{x})
					for _, y := range rows {
						expectFlowOk(t, g, n, a, b, [][]int{x, y})
					}
				}
			}
		}
	}
}

func expectFlowOk(t *testing.T, g grid, n impl.Net, a, b int, ways [][]int) {
	t.Helper()
	if want := g.isFlow(a, b, ways); impl.FlowOk(n, a, b, ways) != want {
		t.Fatalf("FlowOk %v %d %d %v: %v", n, a, b, ways, !want)
	}
}

// FlowOk of ways that have no tie twice with one number of one of them changed, left out, or put in; and with one more way.
func TestFlowOkOfRowsNearWays(t *testing.T) {
	t.Parallel()
	r := numbers(66)
	for _, g := range allShapes() {
		n := g.net()
		for a, b := range pairsEitherWay(g.knots) {
			all := impl.WayAll(n, a, b)
			ways := someFlow(all, &r)
			for _, more := range shuffled(all, &r)[:min(len(all), 5)] {
				expectFlowOk(t, g, n, a, b, append(slices.Clone(ways), more))
			}
			if len(ways) == 0 {
				continue
			}
			at := r.below(len(ways))
			for _, near := range rowsNear(ways[at]) {
				changed := slices.Clone(ways)
				changed[at] = near
				expectFlowOk(t, g, n, a, b, changed)
			}
		}
	}
}

// Rows that are, or are not, ways without a tie twice, each for one reason; in either order.
func TestWaysThatHaveATieTwiceOrNot(t *testing.T) {
	// A ring of six with a tie across, one that hangs from it, and one alone.
	n := netOf(8, 0, 1, 1, 2, 2, 3, 3, 4, 4, 5, 0, 5, 1, 4, 3, 6)
	// Rings that share a knot.
	rings := netOf(5, 0, 1, 0, 2, 1, 2, 2, 3, 2, 4, 3, 4)
	full := fullNet()
	for _, c := range []struct {
		what string
		net  impl.Net
		a, b int
		ways [][]int
		want bool
	}{
		{"no ways", n, 0, 3, nil, true},
		{"no ways, not nil", n, 0, 3, [][]int{}, true},
		{"no ways, of two parts", n, 0, 7, nil, true},
		{"no ways, the same knot", n, 0, 0, nil, false},
		{"no ways, a number that is no knot", n, 0, 8, nil, false},
		{"no ways, a number below 0", n, -1, 3, nil, false},
		{"one way", n, 0, 3, [][]int{{0, 1, 2, 3}}, true},
		{"one way, not the shortest", n, 0, 3, [][]int{{0, 5, 4, 1, 2, 3}}, true},
		{"a tie", n, 4, 1, [][]int{{4, 1}}, true},
		{"a bridge", n, 3, 6, [][]int{{3, 6}}, true},
		{"two ways that are apart", n, 0, 3, [][]int{{0, 1, 2, 3}, {0, 5, 4, 3}}, true},
		{"three ways", n, 1, 4, [][]int{{1, 4}, {1, 2, 3, 4}, {1, 0, 5, 4}}, true},
		{"ways that share a knot, but no tie", rings, 0, 3, [][]int{{0, 1, 2, 3}, {0, 2, 4, 3}}, true},
		{"ways that share a knot, but no tie, otherwise", rings, 4, 1, [][]int{{4, 3, 2, 1}, {4, 2, 0, 1}}, true},
		{"ways that share a knot, but no tie, and a third one", rings, 0, 3, [][]int{{0, 1, 2, 3}, {0, 2, 4, 3}, {0, 2, 3}}, false},
		{"the same way twice", n, 0, 3, [][]int{{0, 1, 2, 3}, {0, 1, 2, 3}}, false},
		{"a tie twice", n, 1, 4, [][]int{{1, 4}, {1, 4}}, false},
		{"a bridge twice", n, 3, 6, [][]int{{3, 6}, {3, 6}}, false},
		{"the same first tie", n, 0, 3, [][]int{{0, 1, 2, 3}, {0, 1, 4, 3}}, false},
		{"the same last tie", n, 0, 3, [][]int{{0, 1, 4, 3}, {0, 5, 4, 3}}, false},
		{"over the same bridge", n, 0, 6, [][]int{{0, 1, 2, 3, 6}, {0, 5, 4, 3, 6}}, false},
		{"the same tie between", full, 0, 7, [][]int{{0, 1, 2, 7}, {0, 3, 1, 2, 4, 7}}, false},
		{"the same tie between gone over either way", full, 0, 7, [][]int{{0, 1, 2, 7}, {0, 3, 2, 1, 4, 7}}, false},
		{"the same tie gone over either way, and knots in common", full, 0, 7, [][]int{{0, 1, 2, 7}, {0, 2, 1, 7}}, false},
		{"the same tie gone over three times", full, 0, 7, [][]int{{0, 1, 2, 7}, {0, 2, 1, 7}, {0, 3, 1, 2, 4, 7}}, false},
		{"the same knots, but no tie", full, 0, 7, [][]int{{0, 1, 2, 3, 7}, {0, 3, 1, 7}, {0, 2, 7}, {0, 7}}, true},
		{"the same tie gone over either way, of a ring with one across", n, 0, 3, [][]int{{0, 1, 4, 3}, {0, 5, 4, 1, 2, 3}}, false},
		{"the same tie by the first and the third", n, 1, 4, [][]int{{1, 4}, {1, 2, 3, 4}, {1, 0, 5, 4}, {1, 4}}, false},
		{"an empty row", n, 0, 3, [][]int{{}}, false},
		{"a nil row", n, 0, 3, [][]int{nil}, false},
		{"an empty row beside a way", n, 0, 3, [][]int{{0, 1, 2, 3}, {}}, false},
		{"an empty row, of two parts", n, 0, 7, [][]int{{}}, false},
		{"not tied", n, 0, 3, [][]int{{0, 1, 2, 3}, {0, 4, 3}}, false},
		{"the ends alone, not tied", n, 0, 3, [][]int{{0, 3}}, false},
		{"one begins elsewhere", n, 0, 3, [][]int{{0, 1, 2, 3}, {5, 4, 3}}, false},
		{"one ends elsewhere", n, 0, 3, [][]int{{0, 1, 2, 3}, {0, 5, 4}}, false},
		{"one goes on behind the end", n, 0, 3, [][]int{{0, 1, 2, 3, 6}, {0, 5, 4, 3}}, false},
		{"one comes from ahead of the beginning", n, 1, 3, [][]int{{0, 1, 2, 3}, {1, 4, 3}}, false},
		{"one turned about", n, 0, 3, [][]int{{0, 1, 2, 3}, {3, 4, 5, 0}}, false},
		{"both turned about", n, 0, 3, [][]int{{3, 2, 1, 0}, {3, 4, 5, 0}}, false},
		{"of other ends", n, 1, 5, [][]int{{0, 1, 2, 3}}, false},
		{"a knot alone", n, 0, 3, [][]int{{0}}, false},
		{"the last knot alone", n, 0, 3, [][]int{{3}}, false},
		{"a knot twice", n, 0, 3, [][]int{{0, 5, 4, 5, 4, 3}}, false},
		{"knots and ties twice", n, 0, 6, [][]int{{0, 1, 2, 3, 4, 1, 2, 3, 6}}, false},
		{"a knot twice, over a ring, and no tie twice", rings, 0, 1, [][]int{{0, 2, 3, 4, 2, 1}}, false},
		{"the last knot twice", rings, 0, 2, [][]int{{0, 2, 3, 4, 2}}, false},
		{"the first knot twice", rings, 2, 3, [][]int{{2, 0, 1, 2, 3}}, false},
		{"a knot twice in a row", n, 0, 3, [][]int{{0, 1, 1, 2, 3}}, false},
		{"the same knot, a way of it alone", n, 0, 0, [][]int{{0}}, false},
		{"the same knot, a ring", n, 1, 1, [][]int{{1, 2, 3, 4, 1}}, false},
		{"of two parts", n, 0, 7, [][]int{{0, 7}}, false},
		{"a number below 0", n, 0, -1, [][]int{{0, 1, -1}}, false},
		{"a number below 0 between", n, 0, 3, [][]int{{0, -1, 3}}, false},
		{"a number past the end", n, 8, 3, [][]int{{8, 3}}, false},
		{"a number past the end between", n, 0, 3, [][]int{{0, 1, 2, 3}, {0, 8, 3}}, false},
		{"far off", n, math.MinInt, math.MaxInt, [][]int{{math.MinInt, math.MaxInt}}, false},
		{"past the end by a power of two", n, 0, 3, [][]int{{0, 1<<32 + 5, 4, 3}}, false},
		{"ends past the end by a power of two", n, 1 << 32, 3, [][]int{{0, 1, 2, 3}}, false},
		{"far too long", n, 0, 3, [][]int{{0, 1, 2, 3}, slices.Repeat([]int{0, 5, 4, 3}, 5000)}, false},
		{"far too many", n, 0, 3, slices.Repeat([][]int{{0, 1, 2, 3}}, 5000), false},
		{"far too many, empty", n, 0, 3, make([][]int, 5000), false},
	} {
		if impl.FlowOk(c.net, c.a, c.b, c.ways) != c.want {
			t.Errorf("%s: FlowOk %d %d: %v", c.what, c.a, c.b, !c.want)
		}
		if impl.FlowOk(c.net, c.a, c.b, turned(c.ways)) != c.want {
			t.Errorf("%s, in the other order: FlowOk %d %d: %v", c.what, c.a, c.b, !c.want)
		}
	}
}

// All ways of at most one knot between, where all pairs are tied: these are one less than knots, so that no other one can be beside them.
func TestAsManyWaysAsKnotsAndOneMore(t *testing.T) {
	n := fullNet()
	ways := [][]int{{0, 7}}
	for k := 1; k < 7; k++ {
		ways = append(ways, []int{0, k, 7})
	}
	if !impl.FlowOk(n, 0, 7, ways) || impl.FlowCount(n, 0, 7) != len(ways) || len(ways) != impl.NetKnots-1 {
		t.Errorf("FlowOk of %d ways: false", len(ways))
	}
	for _, more := range impl.WayAll(n, 0, 7) {
		eight := append(slices.Clone(ways), more)
		if len(eight) != impl.NetKnots || impl.FlowOk(n, 0, 7, eight) {
			t.Errorf("FlowOk with %v beside them: true", more)
		}
		if nine := append(eight, more); impl.FlowOk(n, 0, 7, nine) {
			t.Errorf("FlowOk with %v twice beside them: true", more)
		}
	}
	for _, size := range []int{impl.NetKnots, impl.NetKnots + 1} {
		if impl.FlowOk(n, 0, 7, make([][]int, size)) || impl.FlowOk(n, 0, 7, slices.Repeat(ways[:1], size)) {
			t.Errorf("FlowOk of %d rows that are no ways, or one way so often: true", size)
		}
	}
}

// FlowParts of any list of at most three of some ties, those that the net has not among them, out of order, and twice.
func TestFlowPartsOfAllShortLists(t *testing.T) {
	t.Parallel()
	for g := range allGrids(3) {
		n := g.net()
		some := tiesOf(0, 1, 0, 2, 1, 2, 1, 0, 2, 1, 1, 1, 0, 3, -1, 0)
		lists := [][]impl.Tie{nil}
		for from, size := 0, 0; size < 3; size++ {
			till := len(lists)
			for _, list := range lists[from:till] {
				for _, tie := range some {
					lists = append(lists, append(slices.Clone(list), tie))
				}
			}
			from = till
		}
		for a := -1; a <= g.knots; a++ {
			for b := -1; b <= g.knots; b++ {
				for _, list := range lists {
					if want := g.areCut(a, b, list); impl.FlowParts(n, a, b, list) != want {
						t.Fatalf("FlowParts %v %d %d %v: %v", n, a, b, list, !want)
					}
				}
			}
		}
	}
}

// FlowParts of the fewest ties with any other one beside them, in order or not, and with one of them twice.
func TestFlowPartsOfListsNearTheFewest(t *testing.T) {
	t.Parallel()
	for _, g := range allShapes() {
		n := g.net()
		for a, b := range pairsEitherWay(g.knots) {
			list, _ := impl.FlowCut(n, a, b)
			for _, tie := range anyTies() {
				for at := 0; at <= len(list); at++ {
					near := slices.Insert(slices.Clone(list), at, tie)
					if want := g.areCut(a, b, near); impl.FlowParts(n, a, b, near) != want {
						t.Fatalf("FlowParts %v %d %d %v: %v", n, a, b, near, !want)
					}
				}
			}
			if len(list) > 1 && impl.FlowParts(n, a, b, turned(list)) {
				t.Fatalf("FlowParts %v %d %d of %v out of order: true", n, a, b, list)
			}
		}
	}
}

// The edges of FlowParts, each with what is answered written out.
func TestTiesThatPartAsWritten(t *testing.T) {
	ring := netOf(5, 0, 1, 1, 2, 2, 3, 0, 3)
	joined := netOf(6, 0, 1, 0, 2, 1, 2, 2, 3, 3, 4, 3, 5, 4, 5)
	for _, c := range []struct {
		what string
		net  impl.Net
		a, b int
		list []impl.Tie
		want bool
	}{
		{"no ties, of two parts", ring, 0, 4, nil, true},
		{"no ties, not nil, of two parts", ring, 4, 2, []impl.Tie{}, true},
		{"no ties, of one part", ring, 0, 2, nil, false},
		{"no ties, of two knots alone", impl.Net{Knots: 2}, 0, 1, nil, true},
		{"no ties, the same knot", ring, 1, 1, nil, false},
		{"no ties, the same knot, alone", ring, 4, 4, nil, false},
		{"no ties, of no knots", impl.Net{}, 0, 1, nil, false},
		{"no ties, of one knot", impl.Net{Knots: 1}, 0, 0, nil, false},
		{"no ties, below 0", ring, -1, 0, nil, false},
		{"no ties, past the end", ring, 0, 5, nil, false},
		{"no ties, past the end by a power of two", ring, 1 << 32, 4, nil, false},
		{"all ties", ring, 0, 1, ring.Ties, true},
		{"all ties, of two parts", ring, 4, 1, ring.Ties, true},
		{"all ties, the same knot", ring, 1, 1, ring.Ties, false},
		{"all ties of all pairs", fullNet(), 3, 6, fullNet().Ties, true},
		{"two of a ring", ring, 0, 2, tiesOf(0, 1, 2, 3), true},
		{"two of a ring, of one side", ring, 0, 2, tiesOf(0, 1, 1, 2), false},
		{"three of a ring, more than are needed", ring, 0, 2, tiesOf(0, 1, 0, 3, 2, 3), true},
		{"one of a ring", ring, 0, 2, tiesOf(0, 1), false},
		{"two of a ring, out of order", ring, 0, 2, tiesOf(2, 3, 0, 1), false},
		{"two of a ring, one turned about", ring, 0, 2, tiesOf(0, 1, 3, 2), false},
		{"two of a ring, one twice", ring, 0, 2, tiesOf(0, 1, 0, 1, 2, 3), false},
		{"two of a ring, and one that the net has not", ring, 0, 2, tiesOf(0, 1, 0, 2, 2, 3), false},
		{"two of a ring, and one to no knot", ring, 0, 2, tiesOf(0, 1, 2, 3, 2, 5), false},
		{"two of a ring, and a knot to itself", ring, 0, 2, tiesOf(0, 1, 2, 2, 2, 3), false},
		{"of two parts, and one that the net has not", ring, 0, 4, tiesOf(0, 2), false},
		{"of two parts, and one of it", ring, 0, 4, tiesOf(0, 1), true},
		{"a bridge", joined, 0, 5, tiesOf(2, 3), true},
		{"a bridge, turned about", joined, 0, 5, tiesOf(3, 2), false},
		{"a bridge, and more", joined, 5, 0, tiesOf(0, 1, 2, 3), true},
		{"a bridge that is not between both", joined, 0, 2, tiesOf(2, 3), false},
		{"the tie of both, which is not alone", joined, 0, 2, tiesOf(0, 2), false},
		{"far too many", joined, 0, 5, slices.Repeat(joined.Ties, 5000), false},
	} {
		if !impl.NetOk(c.net) {
			t.Fatalf("the test is wrong: %s", c.what)
		}
		if impl.FlowParts(c.net, c.a, c.b, c.list) != c.want {
			t.Errorf("%s: FlowParts %d %d: %v", c.what, c.a, c.b, !c.want)
		}
	}
}

// The edges of FlowCount and FlowCut, where it is so, each with what is answered written out.
func TestFlowsAsWritten(t *testing.T) {
	ring := netOf(8, 0, 1, 1, 2, 2, 3, 3, 4, 4, 5, 5, 6, 6, 7, 0, 7)
	pair := netOf(5, 0, 1, 0, 2, 1, 2, 2, 3, 2, 4, 3, 4)
	shared := netOf(4, 0, 1, 0, 2, 1, 2, 1, 3, 2, 3)
	joined := netOf(6, 0, 1, 0, 2, 1, 2, 2, 3, 3, 4, 3, 5, 4, 5)
	line := netOf(8, 0, 7, 1, 7, 1, 6, 2, 6, 2, 5, 3, 5, 3, 4)
	towns := twoTowns().net()
	fan := netOf(6, 0, 5, 1, 5, 2, 5, 3, 5, 0, 4, 1, 4, 2, 4, 3, 4)
	for _, c := range []struct {
		what string
		net  impl.Net
		a, b int
		cut  []impl.Tie
	}{
		{"two knots, not tied", impl.Net{Knots: 2}, 0, 1, nil},
		{"two knots, tied", netOf(2, 0, 1), 0, 1, tiesOf(0, 1)},
		{"two knots, tied, turned about", netOf(2, 0, 1), 1, 0, tiesOf(0, 1)},
		{"all alone", impl.Net{Knots: impl.NetKnots}, 7, 2, nil},
		{"of two parts, each a ring", netOf(6, 0, 1, 0, 2, 1, 2, 3, 4, 3, 5, 4, 5), 1, 4, nil},
		{"a bridge between both", joined, 0, 5, tiesOf(2, 3)},
		{"a bridge between both, which they are the ends of", joined, 3, 2, tiesOf(2, 3)},
		{"a bridge not between both", joined, 0, 1, tiesOf(0, 1, 0, 2)},
		{"several bridges", line, 0, 4, tiesOf(0, 7)},
		{"several bridges, the first in the midst", line, 4, 7, tiesOf(1, 6)},
		{"several bridges, the first farther off", line, 3, 1, tiesOf(1, 6)},
		{"one ring, tied", ring, 0, 1, tiesOf(0, 1, 0, 7)},
		{"one ring, across", ring, 2, 6, tiesOf(0, 1, 2, 3)},
		{"one ring, the last tie", ring, 7, 6, tiesOf(0, 1, 6, 7)},
		{"rings that share a knot, in two", pair, 1, 4, tiesOf(0, 1, 1, 2)},
		{"rings that share a knot, in two, turned about", pair, 4, 1, tiesOf(0, 1, 1, 2)},
		{"rings that share a knot, in the latter", pair, 3, 2, tiesOf(2, 3, 2, 4)},
		{"rings that share a knot, in the latter, not that knot", pair, 3, 4, tiesOf(2, 3, 3, 4)},
		{"rings that share a tie, its ends", shared, 1, 2, tiesOf(0, 1, 1, 2, 1, 3)},
		{"rings that share a tie, its ends: the first of one side's", netOf(4, 0, 1, 0, 2, 0, 3, 1, 2, 2, 3), 2, 0, tiesOf(0, 1, 0, 2, 0, 3)},
		{"rings that share a tie, not its ends", shared, 3, 0, tiesOf(0, 1, 0, 2)},
		{"all pairs tied", fullNet(), 3, 6, tiesOf(0, 3, 1, 3, 2, 3, 3, 4, 3, 5, 3, 6, 3, 7)},
		{"all pairs tied, turned about", fullNet(), 6, 3, tiesOf(0, 3, 1, 3, 2, 3, 3, 4, 3, 5, 3, 6, 3, 7)},
		{"all pairs tied, the first and the last", fullNet(), 7, 0, tiesOf(0, 1, 0, 2, 0, 3, 0, 4, 0, 5, 0, 6, 0, 7)},
		{"the first stands at the other knot", fan, 5, 4, tiesOf(0, 4, 1, 4, 2, 4, 3, 4)},
		{"the first stands at the one knot", fan, 4, 5, tiesOf(0, 4, 1, 4, 2, 4, 3, 4)},
		{"the first stands at neither", towns, 0, 7, tiesOf(2, 3, 4, 5)},
		{"the first stands in the midst, though others are as few", netOf(7, 5, 6, 4, 6, 0, 5, 1, 4, 0, 2, 1, 3, 2, 3), 6, 3, tiesOf(0, 2, 1, 3)},
		{"the first is of ties of either knot", netOf(4, 0, 1, 1, 2, 2, 3, 0, 3), 1, 3, tiesOf(0, 1, 1, 2)},
		{"the first has a tie at one knot, and one in the midst", netOf(6, 0, 4, 0, 5, 1, 2, 1, 4, 2, 5), 4, 5, tiesOf(0, 4, 1, 2)},
		{"a knot with one tie", netOf(5, 0, 1, 0, 2, 0, 3, 1, 2, 1, 3, 2, 3, 2, 4), 4, 0, tiesOf(2, 4)},
		{"a knot with one tie, and its other end", netOf(5, 0, 1, 0, 2, 0, 3, 1, 2, 1, 3, 2, 3, 2, 4), 2, 4, tiesOf(2, 4)},
		{"the shortest way must be given up", shortAlone().net(), 0, 7, tiesOf(0, 1, 0, 3)},
		{"a tie of the shortest way must be gone over the other way", thereAndBackTwice().net(), 0, 7, tiesOf(0, 1, 0, 3, 0, 4)},
		{"a tie of the shortest way must be gone over the other way, turned about", thereAndBackTwice().net(), 7, 0, tiesOf(0, 1, 0, 3, 0, 4)},
	} {
		if !impl.NetOk(c.net) {
			t.Fatalf("the test is wrong: %s", c.what)
		}
		if count := impl.FlowCount(c.net, c.a, c.b); count != len(c.cut) {
			t.Errorf("%s: FlowCount %d %d: %d, not %d", c.what, c.a, c.b, count, len(c.cut))
		}
		list, ok := impl.FlowCut(c.net, c.a, c.b)
		if !ok || !slices.Equal(list, c.cut) || !impl.FlowParts(c.net, c.a, c.b, list) {
			t.Errorf("%s: FlowCut %d %d: %v %v, not %v", c.what, c.a, c.b, list, ok, c.cut)
		}
	}
}

// The edges where it is not so: -1, and nothing and false.
func TestFlowsOfWhatIsNotTwoKnots(t *testing.T) {
	ring := netOf(5, 0, 1, 1, 2, 2, 3, 0, 3)
	for _, c := range []struct {
		what string
		net  impl.Net
		a, b int
	}{
		{"no knots", impl.Net{}, 0, 0},
		{"no knots, two", impl.Net{}, 0, 1},
		{"one knot", impl.Net{Knots: 1}, 0, 0},
		{"one knot, and none", impl.Net{Knots: 1}, 0, 1},
		{"one knot, and none, turned about", impl.Net{Knots: 1}, 1, 0},
		{"the same, in a ring", ring, 2, 2},
		{"the same, alone", ring, 4, 4},
		{"the same, all pairs tied", fullNet(), 7, 7},
		{"below 0", ring, -1, 1},
		{"both below 0", ring, -1, -2},
		{"past the end", ring, 1, 5},
		{"past the end of all", fullNet(), impl.NetKnots, 0},
		{"both past the end", ring, 5, 6},
		{"the same, past the end", ring, 5, 5},
		{"far past both ends", ring, math.MinInt, math.MaxInt},
		{"past the end by a power of two", ring, 0, 1<<32 + 2},
		{"past the end by a lesser one", ring, 64, 2},
	} {
		if !impl.NetOk(c.net) {
			t.Fatalf("the test is wrong: %s", c.what)
		}
		expectNoFlow(t, c.what, c.net, c.a, c.b)
	}
}

// expectNoFlow fails if the functions of two knots do not answer as those of what is not so.
func expectNoFlow(t *testing.T, what string, n impl.Net, a, b int) {
	t.Helper()
	if count := impl.FlowCount(n, a, b); count != -1 {
		t.Errorf("%s: FlowCount %d %d: %d", what, a, b, count)
	}
	if list, ok := impl.FlowCut(n, a, b); ok || len(list) != 0 {
		t.Errorf("%s: FlowCut %d %d: %v %v", what, a, b, list, ok)
	}
	for _, ways := range [][][]int{nil, {{a}}, {{a, b}}, {{a, 1, b}}, {{a, 1, b}, {a, 3, b}}} {
		if impl.FlowOk(n, a, b, ways) {
			t.Errorf("%s: FlowOk %d %d %v", what, a, b, ways)
		}
	}
	for _, list := range [][]impl.Tie{nil, {tieOf(a, b)}, tiesOf(0, 1), tiesOf(0, 1, 1, 2), tiesOf(0, 1, 0, 3), n.Ties} {
		if impl.FlowParts(n, a, b, list) {
			t.Errorf("%s: FlowParts %d %d %v", what, a, b, list)
		}
	}
}

// Each function, of a net that is not ok.
func TestFlowsOfNetsThatAreNotOk(t *testing.T) {
	t.Parallel()
	for _, bad := range badTwoNets() {
		if weak := impl.FlowWeak(bad.net); weak != -1 {
			t.Errorf("FlowWeak, %s: %d", bad.name, weak)
		}
		for _, a := range places() {
			for _, b := range places() {
				expectNoFlow(t, bad.name, bad.net, a, b)
			}
		}
	}
}

// The edges of FlowWeak, each with what is answered written out.
func TestFlowWeakAsWritten(t *testing.T) {
	for _, c := range []struct {
		what string
		net  impl.Net
		want int
	}{
		{"no knots", impl.Net{}, -1},
		{"one knot", impl.Net{Knots: 1}, -1},
		{"two knots, not tied", impl.Net{Knots: 2}, 0},
		{"two knots, tied", netOf(2, 0, 1), 1},
		{"all alone", impl.Net{Knots: impl.NetKnots}, 0},
		{"the last alone", netOf(4, 0, 1, 0, 2, 1, 2), 0},
		{"the first alone", netOf(4, 1, 2, 1, 3, 2, 3), 0},
		{"two parts", netOf(6, 0, 1, 0, 2, 1, 2, 3, 4, 3, 5, 4, 5), 0},
		{"a bridge between rings", netOf(6, 0, 1, 0, 2, 1, 2, 2, 3, 3, 4, 3, 5, 4, 5), 1},
		{"a line", netOf(3, 0, 1, 1, 2), 1},
		{"a ring of three", netOf(3, 0, 1, 0, 2, 1, 2), 2},
		{"a ring of all", netOf(8, 0, 1, 1, 2, 2, 3, 3, 4, 4, 5, 5, 6, 6, 7, 0, 7), 2},
		{"rings that share a knot", netOf(5, 0, 1, 0, 2, 1, 2, 2, 3, 2, 4, 3, 4), 2},
		{"rings that share a tie", netOf(4, 0, 1, 0, 2, 1, 2, 1, 3, 2, 3), 2},
		{"all pairs of four", netOf(4, 0, 1, 0, 2, 0, 3, 1, 2, 1, 3, 2, 3), 3},
		{"all pairs", fullNet(), impl.NetKnots - 1},
		{"all pairs but one", gridOf(impl.NetKnots, math.MaxUint64).set(3, 6, false).net(), impl.NetKnots - 2},
		{"all pairs of seven, and one with one tie", grid{knots: 8}.filled(0, 1, 2, 3, 4, 5, 6).lined(3, 7).net(), 1},
		{"all pairs of seven, and the first with two ties", grid{knots: 8}.filled(1, 2, 3, 4, 5, 6, 7).lined(3, 0, 5).net(), 2},
		{"less in the midst than at any knot", twoTowns().net(), 2},
		{"a net of three at each knot", twoShapes()[7].net(), 3},
	} {
		if !impl.NetOk(c.net) {
			t.Fatalf("the test is wrong: %s", c.what)
		}
		if got := impl.FlowWeak(c.net); got != c.want {
			t.Errorf("%s: FlowWeak: %d, not %d", c.what, got, c.want)
		}
	}
}

// flowSays is what is said of any two of some numbers.
type flowSays struct {
	count int
	ok    bool
	weak  int
	none  bool
	all   bool
}

// flowAnswersOf is all that is answered of a net.
func flowAnswersOf(n impl.Net) ([][]impl.Tie, []flowSays) {
	var lists [][]impl.Tie
	var says []flowSays
	for a := -1; a <= impl.NetKnots; a++ {
		for b := -1; b <= impl.NetKnots; b++ {
			list, ok := impl.FlowCut(n, a, b)
			lists = append(lists, list)
			says = append(says, flowSays{impl.FlowCount(n, a, b), ok, impl.FlowWeak(n), impl.FlowOk(n, a, b, nil), impl.FlowParts(n, a, b, n.Ties)})
		}
	}
	return lists, says
}

func expectFlowsApart(t *testing.T, n impl.Net) {
	t.Helper()
	arg, whole := roomy(n)
	before := slices.Clone(whole)
	lists, says := flowAnswersOf(arg)
	want := cloneLists(lists)
	again, saysAgain := flowAnswersOf(arg)
	if !slices.Equal(whole, before) {
		t.Fatalf("%v: an argument was changed", n)
	}
	if !sameLists(again, want) || !slices.Equal(saysAgain, says) {
		t.Fatalf("%v: asked again it answers other things", n)
	}
	expectTiesApart(t, "FlowCut", slices.Concat(lists, again))
	if !slices.Equal(whole, before) {
		t.Fatalf("%v: an answer shares memory with its argument", n)
	}
	// Nothing is kept: whatever was written into answers, all is as it was.
	behind, saysBehind := flowAnswersOf(arg)
	if !sameLists(behind, want) || !slices.Equal(saysBehind, says) {
		t.Fatalf("%v: asked behind that it answers other things", n)
	}
	// The net is looked at alone, not the room behind its ties.
	tight, saysTight := flowAnswersOf(impl.Net{Knots: n.Knots, Ties: slices.Clip(slices.Clone(n.Ties))})
	if !sameLists(tight, want) || !slices.Equal(saysTight, says) {
		t.Fatalf("%v: it answers other things by the room of its ties", n)
	}
}

func TestMemoryOfFlowsIsApart(t *testing.T) {
	t.Parallel()
	for g := range grids() {
		expectFlowsApart(t, g.net())
	}
	for _, g := range allShapes() {
		expectFlowsApart(t, g.net())
	}
	for _, bad := range badTwoNets() {
		expectFlowsApart(t, bad.net)
	}
	// Here the cut looks just as the argument does.
	expectFlowsApart(t, netOf(2, 0, 1))
	expectFlowsApart(t, netOf(8, 0, 1, 0, 2, 0, 3, 0, 4, 0, 5, 0, 6, 0, 7))
}

// Ways that are asked about are not changed, nor what lies behind their ends, nor behind the end of the list of them.
func TestWaysThatAreAskedAboutAreNotChanged(t *testing.T) {
	rows := [][]int{nil, {0}, {0, 2}, {0, 1, 2}, {0, 3, 2}, {2, 1, 0}, {0, 1, 0, 2}, {0, 9, 2}, {0, 7, 6, 5, 4, 3, 2}, {0, 1, 2, 3, 4, 5, 6, 7, 0}}
	for _, n := range []impl.Net{fullNet(), netOf(4, 0, 1, 1, 2, 2, 3, 0, 3), netOf(8, 0, 1, 1, 2, 2, 3, 3, 4, 4, 5, 5, 6, 6, 7, 0, 7), {}, {Knots: 99}} {
		for _, x := range rows {
			for _, y := range rows {
				argX, wholeX := roomyRow(x)
				argY, wholeY := roomyRow(y)
				net, ties := roomy(n)
				// Behind the end lies a row that would be a way.
				list := [][]int{argX, argY, {0, 4, 2}}
				beforeX, beforeY, tiesBefore := slices.Clone(wholeX), slices.Clone(wholeY), slices.Clone(ties)
				first := impl.FlowOk(net, 0, 2, list[:2])
				if first != impl.FlowOk(net, 0, 2, list[:2]) {
					t.Errorf("%v: %v and %v are ok or not by how often it is asked", n, x, y)
				}
				if first != impl.FlowOk(n, 0, 2, [][]int{slices.Clip(slices.Clone(x)), slices.Clip(slices.Clone(y))}) {
					t.Errorf("%v: %v and %v are ok or not by their room", n, x, y)
				}
				if !slices.Equal(wholeX, beforeX) || !slices.Equal(wholeY, beforeY) || !slices.Equal(ties, tiesBefore) {
					t.Errorf("%v: asked about %v and %v, an argument was changed", n, x, y)
				}
				if !slices.Equal(list[0], x) || !slices.Equal(list[1], y) || !slices.Equal(list[2], []int{0, 4, 2}) {
					t.Errorf("%v: asked about %v and %v, the list of them was changed", n, x, y)
				}
			}
		}
	}
}

// Rows may lie in one list: what they share does not count, only their ties.
func TestWaysThatShareMemoryMayBeOk(t *testing.T) {
	whole := []int{0, 1, 2, 0, 3, 2}
	n := netOf(4, 0, 1, 1, 2, 2, 3, 0, 3)
	if !impl.FlowOk(n, 0, 2, [][]int{whole[:3], whole[3:]}) || impl.FlowOk(n, 0, 2, [][]int{whole[:3], whole[:3]}) {
		t.Error("FlowOk of rows of one list")
	}
	if !slices.Equal(whole, []int{0, 1, 2, 0, 3, 2}) {
		t.Error("FlowOk changed its rows")
	}
}

// Ties that may part both are not changed, nor what lies behind their end; they may be the net's own.
func TestTiesThatMayPartAreNotChanged(t *testing.T) {
	ring := netOf(4, 0, 1, 1, 2, 2, 3, 0, 3)
	for _, n := range []impl.Net{ring, fullNet(), netOf(2, 0, 1), {}, {Knots: 99}} {
		for _, list := range [][]impl.Tie{nil, tiesOf(0, 1), tiesOf(0, 1, 2, 3), tiesOf(2, 3, 0, 1), tiesOf(0, 1, 0, 1), tiesOf(1, 0), tiesOf(0, 9), ring.Ties, fullNet().Ties} {
			arg, whole := roomyTies(list)
			net, ties := roomy(n)
			before, tiesBefore := slices.Clone(whole), slices.Clone(ties)
			first := impl.FlowParts(net, 0, 1, arg)
			if first != impl.FlowParts(net, 0, 1, arg) {
				t.Errorf("%v: %v part both or not by how often it is asked", n, list)
			}
			if first != impl.FlowParts(n, 0, 1, slices.Clip(slices.Clone(list))) {
				t.Errorf("%v: %v part both or not by their room", n, list)
			}
			if !slices.Equal(whole, before) || !slices.Equal(ties, tiesBefore) {
				t.Errorf("%v: asked about %v, an argument was changed", n, list)
			}
		}
	}
	own := slices.Clone(ring.Ties)
	if !impl.FlowParts(ring, 0, 2, ring.Ties) || !impl.FlowParts(ring, 0, 2, ring.Ties[:2]) || !slices.Equal(ring.Ties, own) {
		t.Error("FlowParts of the net's own ties")
	}
}
