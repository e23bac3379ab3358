package tests

import (
	"math"
	"slices"
	"testing"

	"loop.example/osier/impl"
)

// P71: by the document's words, and by what the program itself says.
func TestEarsThatAreToldAreSuch(t *testing.T) {
	t.Parallel()
	for g := range earGrids() {
		n := g.net()
		ears, ok := impl.EarOf(n)
		if ok && (!g.areEars(ears) || !impl.EarOk(n, ears)) {
			t.Fatalf("EarOf %v: %v, which are none, or EarOk says so", n, ears)
		}
		if !ok && len(ears) > 0 {
			t.Fatalf("EarOf %v: %v and false", n, ears)
		}
	}
}

// P72: by what the program itself says of parts and bridges.
func TestANetHasEarsJustIfItIsOnePartWithoutBridges(t *testing.T) {
	t.Parallel()
	for g := range earGrids() {
		n := g.net()
		ears, ok := impl.EarOf(n)
		if want := impl.WayCount(n) == 1 && n.Knots >= 3 && len(impl.BridgeList(n)) == 0; ok != want || want != (len(ears) > 0) {
			t.Fatalf("EarOf %v: %v %v", n, ears, ok)
		}
		if ok != g.hasEars() {
			t.Fatalf("EarOf %v: %v, by the document's words %v", n, ok, !ok)
		}
	}
}

// P72: what is not so has no ears, though each of its pieces without bridges has, and each bridge be taken for one.
func TestWhatHasNoEarsIsRefused(t *testing.T) {
	t.Parallel()
	r := numbers(72)
	for g := range earGrids() {
		if g.hasEars() {
			continue
		}
		n := g.net()
		if ears, ok := impl.EarOf(n); ok || len(ears) > 0 {
			t.Fatalf("EarOf %v: %v %v", n, ears, ok)
		}
		pieces := earsOfPieces(g, &r)
		for _, ears := range [][][]int{nil, pieces, turned(pieces), shuffled(pieces, &r), pieces[:len(pieces)/2]} {
			if impl.EarOk(n, ears) {
				t.Fatalf("EarOk %v %v: true", n, ears)
			}
		}
	}
}

// earsOfPieces is ears of all that hangs together without bridges, and then each bridge as a row, there and as a ring.
func earsOfPieces(g grid, r *numbers) [][]int {
	var out [][]int
	parts := g.bridgeParts()
	for least := range g.knots {
		var knots []int
		for k, part := range parts {
			if part == least {
				knots = append(knots, k)
			}
		}
		if len(knots) < 3 {
			continue
		}
		for _, ear := range pieceOf(g, knots).someEars(r) {
			for i, place := range ear {
				ear[i] = knots[place]
			}
			out = append(out, ear)
		}
	}
	for _, tie := range g.bridges() {
		row := []int{tie.A, tie.B}
		if r.below(2) == 0 {
			row = []int{tie.B, tie.A, tie.B}
		}
		out = append(out, row)
	}
	return out
}

// pieceOf is these knots of a net, named by their places, with the ties between them.
func pieceOf(g grid, knots []int) grid {
	out := grid{knots: len(knots)}
	for i, a := range knots {
		for j, b := range knots[:i] {
			out = out.set(i, j, g.has(a, b))
		}
	}
	return out
}

// P73: of those that are told, and of any others.
func TestAsManyEarsAsTiesLessKnotsAndOne(t *testing.T) {
	t.Parallel()
	for g, ears := range earsOfMany(73) {
		n := g.net()
		want := len(n.Ties) - n.Knots + 1
		if told, _ := impl.EarOf(n); len(told) != want {
			t.Fatalf("EarOf %v: %v, not %d", n, told, want)
		}
		if !impl.EarOk(n, ears) || len(ears) != want {
			t.Fatalf("EarOk %v %v: false, or not %d ears", n, ears, want)
		}
		for i, ear := range ears {
			if fewer := without(ears, i); impl.EarOk(n, fewer) {
				t.Fatalf("EarOk %v %v: true", n, fewer)
			}
			if more := append(slices.Clone(ears), ear); impl.EarOk(n, more) {
				t.Fatalf("EarOk %v %v: true", n, more)
			}
		}
	}
}

// P74: by what the program itself says of parts, bridges and ways.
func TestWhatHasEarsHangsTogetherTwice(t *testing.T) {
	t.Parallel()
	for g, ears := range earsOfMany(74) {
		n := g.net()
		if !impl.EarOk(n, ears) {
			t.Fatalf("EarOk %v %v: false", n, ears)
		}
		if impl.WayCount(n) != 1 || len(impl.BridgeList(n)) > 0 || impl.FlowWeak(n) < 2 {
			t.Fatalf("%v has ears, but %d parts, the bridges %v, or just %d ways", n, impl.WayCount(n), impl.BridgeList(n), impl.FlowWeak(n))
		}
		for a, b := range pairsEitherWay(g.knots) {
			if count := impl.FlowCount(n, a, b); count < 2 {
				t.Fatalf("%v has ears, but from %d to %d %d ways", n, a, b, count)
			}
		}
	}
}

// P75: by what the program itself says of blocks. There are open ears, and such as are not, of one block too.
func TestWhatHasOpenEarsIsOneBlock(t *testing.T) {
	t.Parallel()
	open, shut, shutBlocks := 0, 0, 0
	for g, ears := range earsOfMany(75) {
		n := g.net()
		cuts, blocks := impl.BlockCuts(n), impl.BlockList(n)
		isBlock := len(cuts) == 0 && len(blocks) == 1
		switch {
		case !impl.EarOk(n, ears):
			t.Fatalf("EarOk %v %v: false", n, ears)
		case !impl.EarOpen(ears):
			shut++
			if isBlock {
				shutBlocks++
			}
		case !isBlock:
			t.Fatalf("EarOpen %v: true, though of %v %v cut, and the blocks are %v", ears, n, cuts, blocks)
		default:
			open++
		}
	}
	if open == 0 || shut == shutBlocks || shutBlocks == 0 {
		t.Fatalf("the test is wrong: %d open, %d not, of these %d of one block", open, shut, shutBlocks)
	}
}

// P75: EarOpen of ears, of those ahead and behind, and in other orders, by the document's words.
func TestEarsAreOpenJustIfNoneBehindTheFirstEndsWhereItBegan(t *testing.T) {
	t.Parallel()
	for _, ears := range earsOfMany(750) {
		for i := range ears {
			expectEarOpen(t, ears[i:])
			expectEarOpen(t, ears[:i])
		}
		expectEarOpen(t, turned(ears))
		expectEarOpen(t, turnedWays(ears))
	}
}

func expectEarOpen(t *testing.T, ears [][]int) {
	t.Helper()
	want := len(ears) > 0
	for i, ear := range ears {
		if i > 0 && ear[0] == ear[len(ear)-1] {
			want = false
		}
	}
	if impl.EarOpen(ears) != want {
		t.Fatalf("EarOpen %v: %v", ears, !want)
	}
}

// P76: each alone, and all.
func TestAnEarTurnedAboutIsOne(t *testing.T) {
	t.Parallel()
	for g, ears := range earsOfMany(76) {
		n := g.net()
		if !impl.EarOk(n, ears) || !impl.EarOk(n, turnedWays(ears)) {
			t.Fatalf("EarOk %v %v, or all turned about: false", n, ears)
		}
		for i := range ears {
			one := slices.Clone(ears)
			one[i] = turned(ears[i])
			if !impl.EarOk(n, one) || impl.EarOpen(one) != impl.EarOpen(ears) {
				t.Fatalf("EarOk %v %v with %v turned about: false, or not open as they were", n, ears, ears[i])
			}
		}
	}
}

// P77: of what is made of them they are ears, of the whole they are not.
func TestEarsAheadAreEarsOfWhatTheyAreMadeOf(t *testing.T) {
	t.Parallel()
	for g, ears := range earsOfMany(77) {
		n := g.net()
		for i := 1; i <= len(ears); i++ {
			made, named := madeOf(ears[:i])
			if !impl.EarOk(made.net(), named) {
				t.Fatalf("EarOk %v %v: false, though %v are ears of %v", made.net(), named, ears, n)
			}
			if want := i == len(ears); impl.EarOk(n, ears[:i]) != want {
				t.Fatalf("EarOk %v %v: %v", n, ears[:i], !want)
			}
			if impl.EarOpen(ears) && !impl.EarOpen(named) {
				t.Fatalf("EarOpen %v: false, though %v are open", named, ears)
			}
		}
	}
}

// P78: and over which ties it goes, by what the program itself says of ways.
func TestTheFirstEarIsARingAtTheKnot0(t *testing.T) {
	t.Parallel()
	for g := range withEars(earGrids()) {
		n := g.net()
		ears, ok := impl.EarOf(n)
		if !ok || len(ears) == 0 {
			t.Fatalf("EarOf %v: %v %v", n, ears, ok)
		}
		first := ears[0]
		last := len(first) - 1
		if last < 3 || first[0] != 0 || first[last] != 0 || !impl.WayOk(n, first[:last]) || !impl.NetHas(n, first[last-1], 0) {
			t.Fatalf("EarOf %v: the first is %v", n, first)
		}
		// Over the least knot that is tied to it, and as short as a ring over that tie can be.
		least := slices.Index(g.tied[0][:], true)
		cut, _ := impl.NetCut(n, 0, least)
		if way, _ := impl.WayFind(cut, least, 0); !slices.Equal(first[1:], way) {
			t.Fatalf("EarOf %v: the first is %v, though the way back is %v", n, first, way)
		}
	}
}

// P79.
func TestAllTiesOfAnEarAreInOneBlock(t *testing.T) {
	t.Parallel()
	for g, ears := range earsOfMany(79) {
		n := g.net()
		told, _ := impl.EarOf(n)
		for _, ear := range slices.Concat(ears, told) {
			ties := wayTies(ear)
			for _, tie := range ties {
				if !impl.BlockSame(n, ties[0], tie) {
					t.Fatalf("%v: of the ear %v %v and %v are not in one block", n, ear, ties[0], tie)
				}
			}
		}
	}
}

// P71, P72: all nets of at most six knots, by all ways on.
func TestEarsOfAllSmallNets(t *testing.T) {
	t.Parallel()
	for g := range allGrids(6) {
		expectEars(t, g)
	}
}

// P71, P72: greater ones.
func TestEarsOfGreaterNets(t *testing.T) {
	t.Parallel()
	for g := range earGrids() {
		expectEars(t, g)
	}
	for _, g := range allShapes() {
		expectEars(t, g)
	}
}

func expectEars(t *testing.T, g grid) {
	t.Helper()
	var want [][]int
	if g.hasEars() {
		want = g.ears()
	}
	ears, ok := impl.EarOf(g.net())
	if ok != g.hasEars() || !sameLists(ears, want) {
		t.Fatalf("EarOf %v: %v %v, not %v", g.net(), ears, ok, want)
	}
}

// The edges of EarOf, each with what is answered written out.
func TestEarsAsWritten(t *testing.T) {
	for _, c := range []struct {
		what string
		net  impl.Net
		ears [][]int
	}{
		{"no knots", impl.Net{}, nil},
		{"one knot", impl.Net{Knots: 1}, nil},
		{"two knots, not tied", impl.Net{Knots: 2}, nil},
		{"two knots, tied", netOf(2, 0, 1), nil},
		{"three knots, not tied", impl.Net{Knots: 3}, nil},
		{"three knots in a row", netOf(3, 0, 1, 1, 2), nil},
		{"three knots in a ring", netOf(3, 0, 1, 0, 2, 1, 2), [][]int{{0, 1, 2, 0}}},
		{"one ring of four", netOf(4, 0, 2, 2, 1, 1, 3, 0, 3), [][]int{{0, 2, 1, 3, 0}}},
		{"one ring of all", netOf(8, 0, 1, 1, 2, 2, 3, 3, 4, 4, 5, 5, 6, 6, 7, 0, 7), [][]int{{0, 1, 2, 3, 4, 5, 6, 7, 0}}},
		{"one ring of all, otherwise", netOf(8, 0, 7, 7, 1, 1, 6, 6, 2, 2, 5, 5, 3, 3, 4, 0, 4), [][]int{{0, 4, 3, 5, 2, 6, 1, 7, 0}}},
		{"rings that share the knot 0", netOf(5, 0, 1, 1, 2, 0, 2, 0, 3, 3, 4, 0, 4), [][]int{{0, 1, 2, 0}, {0, 3, 4, 0}}},
		{"rings that share another knot", netOf(5, 0, 1, 1, 2, 0, 2, 2, 3, 3, 4, 2, 4), [][]int{{0, 1, 2, 0}, {2, 3, 4, 2}}},
		{"rings that share another knot, the greatest", netOf(5, 0, 1, 1, 4, 0, 4, 2, 3, 3, 4, 2, 4), [][]int{{0, 1, 4, 0}, {4, 2, 3, 4}}},
		{"rings of four that share a knot", netOf(7, 0, 1, 1, 2, 2, 3, 0, 3, 2, 4, 4, 6, 6, 5, 2, 5), [][]int{{0, 1, 2, 3, 0}, {2, 4, 6, 5, 2}}},
		{"three rings that share the knot 0", earShapes()[3].net(), [][]int{{0, 1, 2, 0}, {0, 3, 4, 0}, {0, 5, 6, 0}}},
		{"three rings in a row", earShapes()[4].net(), [][]int{{0, 1, 2, 0}, {2, 3, 4, 2}, {4, 5, 6, 4}}},
		{"rings that share a tie, at the knot 0", netOf(4, 0, 1, 0, 2, 1, 2, 0, 3, 1, 3), [][]int{{0, 1, 2, 0}, {0, 3, 1}}},
		{"rings that share a tie, not at the knot 0", netOf(4, 0, 1, 0, 2, 1, 2, 1, 3, 2, 3), [][]int{{0, 1, 2, 0}, {1, 3, 2}}},
		{"rings that share a tie, which the first ring has not", netOf(4, 0, 1, 1, 2, 2, 3, 0, 3, 0, 2), [][]int{{0, 1, 2, 0}, {0, 3, 2}}},
		{"rings of four and five that share a tie", netOf(7, 0, 1, 1, 2, 2, 3, 0, 3, 2, 4, 4, 5, 5, 6, 3, 6), [][]int{{0, 1, 2, 3, 0}, {2, 4, 5, 6, 3}}},
		{"an ear of one tie alone", netOf(4, 0, 1, 0, 2, 0, 3, 1, 2, 1, 3, 2, 3), [][]int{{0, 1, 2, 0}, {0, 3, 1}, {2, 3}}},
		{"an ear of one tie alone, across a way on", netOf(5, 0, 1, 0, 2, 1, 2, 0, 3, 3, 4, 1, 4, 2, 3), [][]int{{0, 1, 2, 0}, {0, 3, 2}, {1, 4, 3}}},
		{"an ear of one tie alone, from a knot that is there since the second", ringInABlock().net(), [][]int{{0, 1, 2, 0}, {0, 3, 4, 0}, {1, 4}}},
		{"several ends, and several ways to the least", severalEnds().net(), [][]int{{0, 1, 2, 0}, {0, 3, 5, 1}, {1, 6, 3}, {2, 4, 3}}},
		{"a shorter way to a greater end", shorterToTheGreater().net(), [][]int{{0, 1, 2, 0}, {0, 3, 2}, {1, 4, 3}}},
		{"a shorter way to a greater end than where it began", netOf(6, 0, 1, 0, 2, 1, 2, 0, 3, 3, 4, 4, 5, 0, 5, 2, 4), [][]int{{0, 1, 2, 0}, {0, 3, 4, 2}, {0, 5, 4}}},
		{"as short a way to where it began", netOf(6, 0, 1, 0, 2, 1, 2, 0, 3, 3, 4, 0, 5, 3, 5, 1, 4), [][]int{{0, 1, 2, 0}, {0, 3, 5, 0}, {1, 4, 3}}},
		{"as short a way to a lesser end than where it began", netOf(6, 0, 1, 1, 2, 0, 2, 1, 3, 3, 4, 0, 4, 3, 5, 1, 5), [][]int{{0, 1, 2, 0}, {0, 4, 3, 1}, {1, 5, 3}}},
		{"no ring by a shorter way back, as that is the tie gone over", netOf(5, 0, 1, 0, 2, 1, 2, 0, 3, 3, 4, 2, 4), [][]int{{0, 1, 2, 0}, {0, 3, 4, 2}}},
		{"several first rings as short", netOf(5, 0, 1, 1, 4, 0, 4, 1, 3, 0, 3, 1, 2, 0, 2), [][]int{{0, 1, 2, 0}, {0, 3, 1}, {0, 4, 1}}},
		{"the first ring is not the shortest of all, as it goes over the least knot", netOf(6, 0, 1, 1, 2, 2, 3, 3, 5, 0, 5, 0, 4, 4, 5), [][]int{{0, 1, 2, 3, 5, 0}, {0, 4, 5}}},
		{"a lesser knot that is not there has ties too", netOf(5, 0, 3, 0, 4, 3, 4, 1, 3, 1, 2, 2, 4), [][]int{{0, 3, 4, 0}, {3, 1, 2, 4}}},
		{"the knot that comes to be there is the least with a tie", netOf(6, 0, 4, 0, 5, 4, 5, 1, 4, 1, 5, 1, 2, 2, 3, 3, 5), [][]int{{0, 4, 5, 0}, {4, 1, 5}, {1, 2, 3, 5}}},
		{"a tie to a knot that is not there ahead of one that is", netOf(5, 0, 2, 2, 3, 3, 4, 0, 4, 0, 3, 0, 1, 1, 4), [][]int{{0, 1, 4, 0}, {0, 2, 3, 0}, {3, 4}}},
		{"all pairs of three", gridOf(3, math.MaxUint64).net(), [][]int{{0, 1, 2, 0}}},
		{"all pairs of five", gridOf(5, math.MaxUint64).net(), [][]int{{0, 1, 2, 0}, {0, 3, 1}, {0, 4, 1}, {2, 3}, {2, 4}, {3, 4}}},
		{"all pairs", fullNet(), earsOfFull()},
		{"a bridge to a knot", netOf(4, 0, 1, 0, 2, 1, 2, 2, 3), nil},
		{"a bridge from the knot 0", netOf(4, 0, 1, 1, 2, 1, 3, 2, 3), nil},
		{"a bridge between rings", netOf(6, 0, 1, 0, 2, 1, 2, 2, 3, 3, 4, 3, 5, 4, 5), nil},
		{"bridges alone", netOf(8, 0, 1, 1, 2, 2, 3, 3, 4, 4, 5, 5, 6, 6, 7), nil},
		{"two parts, each a ring", netOf(6, 0, 1, 0, 2, 1, 2, 3, 4, 3, 5, 4, 5), nil},
		{"a knot alone, the last", netOf(4, 0, 1, 0, 2, 1, 2), nil},
		{"a knot alone, the first", netOf(4, 1, 2, 1, 3, 2, 3), nil},
		{"a knot alone, between", netOf(4, 0, 1, 0, 3, 1, 3), nil},
		{"all alone", impl.Net{Knots: impl.NetKnots}, nil},
	} {
		if !impl.NetOk(c.net) {
			t.Fatalf("the test is wrong: %s", c.what)
		}
		ears, ok := impl.EarOf(c.net)
		if ok != (c.ears != nil) || !sameLists(ears, c.ears) {
			t.Errorf("%s: EarOf: %v %v, not %v", c.what, ears, ok, c.ears)
		}
		if impl.EarOk(c.net, c.ears) != (c.ears != nil) {
			t.Errorf("%s: EarOk %v: %v", c.what, c.ears, c.ears == nil)
		}
	}
}

// earsOfFull is the ears of NetKnots knots with all pairs tied: behind the ring of three each other knot comes between 0 and 1, and then each tie comes alone.
func earsOfFull() [][]int {
	out := [][]int{{0, 1, 2, 0}}
	for k := 3; k < impl.NetKnots; k++ {
		out = append(out, []int{0, k, 1})
	}
	for _, tie := range pairsOf(impl.NetKnots) {
		if tie.A >= 2 {
			out = append(out, []int{tie.A, tie.B})
		}
	}
	return out
}

// EarOk of one row, knots twice and numbers that are no knots among them, and of two of knots, by the document's words.
func TestEarOkOfAllShortRows(t *testing.T) {
	t.Parallel()
	for g := range allGrids(4) {
		n := g.net()
		numbers := append(knotsOf(g.knots), -1, g.knots)
		for _, row := range rowsOfNumbers(numbers, 5) {
			expectEarOk(t, g, n, [][]int{row})
		}
	}
	for g := range allGrids(3) {
		n := g.net()
		rows := rowsOfNumbers(knotsOf(g.knots), 4)
		for _, x := range rows {
			for _, y := range rows {
				expectEarOk(t, g, n, [][]int{x, y})
			}
		}
	}
}

// EarOk of a ring and any two short rows behind it, where all pairs of four knots are tied, or all but one.
func TestEarOkOfAllShortRowsBehindARing(t *testing.T) {
	t.Parallel()
	full := gridOf(4, math.MaxUint64)
	rows := rowsOfNumbers(knotsOf(4), 4)
	for _, g := range []grid{full, full.set(2, 3, false), full.set(1, 3, false), full.set(0, 3, false), full.set(0, 3, false).set(1, 3, false)} {
		n := g.net()
		for _, x := range rows {
			expectEarOk(t, g, n, [][]int{{2, 0, 1, 2}, x})
			for _, y := range rows {
				if ears := [][]int{{0, 1, 2, 0}, x, y}; impl.EarOk(n, ears) != g.areEars(ears) {
					t.Fatalf("EarOk %v %v: %v", n, ears, !g.areEars(ears))
				}
			}
		}
	}
}

func expectEarOk(t *testing.T, g grid, n impl.Net, ears [][]int) {
	t.Helper()
	if want := g.areEars(ears); impl.EarOk(n, ears) != want {
		t.Fatalf("EarOk %v %v: %v", n, ears, !want)
	}
}

// EarOk of ears with one number of one of them changed, left out, or put in; of ears out of their order, and drawn together.
func TestEarOkOfRowsNearEars(t *testing.T) {
	t.Parallel()
	r := numbers(220)
	for _, g := range slices.Concat(allShapes(), earShapes()) {
		if !g.hasEars() {
			continue
		}
		n := g.net()
		for _, ears := range [][][]int{g.ears(), g.someEars(&r)} {
			for i, ear := range ears {
				for _, near := range rowsNear(ear) {
					changed := slices.Clone(ears)
					changed[i] = near
					expectEarOk(t, g, n, changed)
				}
				expectEarOk(t, g, n, shuffled(ears, &r))
				moved := slices.Insert(without(ears, i), r.below(len(ears)), ear)
				expectEarOk(t, g, n, moved)
			}
			for i := 1; i < len(ears); i++ {
				drawn := without(ears, i)
				drawn[i-1] = slices.Concat(ears[i-1], ears[i][1:])
				expectEarOk(t, g, n, drawn)
			}
		}
	}
}

// EarOk of the ears of one net, asked of another one: with a tie more, and with a tie less.
func TestEarsOfOneNetAreNoneOfAnother(t *testing.T) {
	t.Parallel()
	r := numbers(221)
	for g := range withEars(earGrids()) {
		ears := g.someEars(&r)
		for _, tie := range pairsOf(g.knots) {
			other := g.set(tie.A, tie.B, !g.has(tie.A, tie.B)).net()
			if impl.EarOk(other, ears) {
				t.Fatalf("EarOk %v %v: true, though they are of %v", other, ears, g.net())
			}
		}
		more, fewer := g.net(), g.net()
		more.Knots++
		fewer.Knots--
		if impl.EarOk(more, ears) || impl.EarOk(fewer, ears) {
			t.Fatalf("EarOk %v with a knot more, or less, %v: true", g.net(), ears)
		}
	}
}

// Rows that are ears, or are not, each for one reason.
func TestRowsThatAreEarsOrNot(t *testing.T) {
	// A ring of four, a knot across it, and a ring that shares its last knot.
	n := netOf(7, 0, 1, 1, 2, 2, 3, 0, 3, 0, 4, 2, 4, 3, 5, 3, 6, 5, 6)
	ring, across, behind := []int{0, 1, 2, 3, 0}, []int{0, 4, 2}, []int{3, 5, 6, 3}
	three := netOf(3, 0, 1, 0, 2, 1, 2)
	four := netOf(4, 0, 1, 0, 2, 0, 3, 1, 2, 1, 3, 2, 3)
	// Rings that share a knot, two at 0 and two not; three of them in a row; and one with a row behind.
	atZero := netOf(5, 0, 1, 1, 2, 0, 2, 0, 3, 3, 4, 0, 4)
	atTwo := netOf(5, 0, 1, 1, 2, 0, 2, 2, 3, 3, 4, 2, 4)
	rings := netOf(7, 0, 1, 1, 2, 0, 2, 2, 3, 3, 4, 2, 4, 4, 5, 5, 6, 4, 6)
	tail := netOf(4, 0, 1, 1, 2, 0, 2, 2, 3)
	// A ring, and a way over one of its knots; a ring, and a ring that hangs from a way.
	over := netOf(5, 0, 1, 1, 2, 0, 2, 0, 3, 1, 3, 1, 4, 2, 4)
	loop := netOf(6, 0, 1, 1, 2, 0, 2, 0, 3, 1, 3, 3, 4, 4, 5, 3, 5)
	for _, c := range []struct {
		what string
		net  impl.Net
		ears [][]int
		want bool
	}{
		{"a ring, a way and a ring", n, [][]int{ring, across, behind}, true},
		{"the later ones in the other order", n, [][]int{ring, behind, across}, true},
		{"the last ring first", n, [][]int{behind, {3, 0, 1, 2, 3}, across}, true},
		{"the first ring begins elsewhere", n, [][]int{{2, 3, 0, 1, 2}, across, behind}, true},
		{"the first ring is over the way", n, [][]int{{0, 1, 2, 4, 0}, {0, 3, 2}, behind}, true},
		{"the first ring is of the way and the other side", n, [][]int{{4, 2, 3, 0, 4}, {2, 1, 0}, behind}, true},
		{"the first turned about", n, [][]int{turned(ring), across, behind}, true},
		{"a later one turned about", n, [][]int{ring, turned(across), behind}, true},
		{"a later ring turned about", n, [][]int{ring, across, turned(behind)}, true},
		{"all turned about", n, turnedWays([][]int{ring, across, behind}), true},
		{"a later ring begins at a knot that is in no ear ahead", n, [][]int{ring, across, {5, 6, 3, 5}}, false},
		{"no ears", n, nil, false},
		{"no ears, not nil", n, [][]int{}, false},
		{"no ears, of no knots", impl.Net{}, nil, false},
		{"no ears, of one knot", impl.Net{Knots: 1}, nil, false},
		{"an ear of no knots alone, of no knots", impl.Net{}, [][]int{{}}, false},
		{"an ear of no knots alone", three, [][]int{{}}, false},
		{"a nil ear alone", three, [][]int{nil}, false},
		{"an ear of no knots ahead", three, [][]int{{}, {0, 1, 2, 0}}, false},
		{"an ear of no knots behind", three, [][]int{{0, 1, 2, 0}, {}}, false},
		{"a nil ear behind", three, [][]int{{0, 1, 2, 0}, nil}, false},
		{"an ear of no knots between", n, [][]int{ring, {}, across, behind}, false},
		{"an ear of one number alone, of one knot", impl.Net{Knots: 1}, [][]int{{0}}, false},
		{"an ear of one number ahead", three, [][]int{{0}, {0, 1, 2, 0}}, false},
		{"an ear of one number behind", three, [][]int{{0, 1, 2, 0}, {1}}, false},
		{"an ear of one number between", n, [][]int{ring, {2}, across, behind}, false},
		{"an ear of two numbers first, of two knots", netOf(2, 0, 1), [][]int{{0, 1}}, false},
		{"an ear of two numbers first", three, [][]int{{0, 1}, {1, 2, 0}}, false},
		{"an ear of two numbers, the same", three, [][]int{{0, 1, 2, 0}, {1, 1}}, false},
		{"an ear of two numbers, the same, first", three, [][]int{{0, 0}, {0, 1, 2, 0}}, false},
		{"an ear of two numbers, the last", four, [][]int{{0, 1, 2, 0}, {0, 3, 1}, {2, 3}}, true},
		{"an ear of two numbers, turned about", four, [][]int{{0, 1, 2, 0}, {0, 3, 1}, {3, 2}}, true},
		{"ears of two numbers, the last ones", four, [][]int{{0, 1, 2, 3, 0}, {0, 2}, {3, 1}}, true},
		{"a ring of three numbers first, of two knots", netOf(2, 0, 1), [][]int{{0, 1, 0}}, false},
		{"a ring of three numbers first", tail, [][]int{{2, 3, 2}, {2, 0, 1, 2}}, false},
		{"a ring of three numbers behind", tail, [][]int{{0, 1, 2, 0}, {2, 3, 2}}, false},
		{"a row of three numbers behind", over, [][]int{{0, 1, 2, 0}, {0, 3, 1}, {1, 4, 2}}, true},
		{"a ring of four numbers behind", atZero, [][]int{{0, 1, 2, 0}, {0, 3, 4, 0}}, true},
		{"a ring of four numbers behind, at another knot", atTwo, [][]int{{0, 1, 2, 0}, {2, 3, 4, 2}}, true},
		{"the first does not end where it began", three, [][]int{{0, 1, 2}, {2, 0}}, false},
		{"the first does not end where it began, of more", n, [][]int{{0, 1, 2, 3}, {3, 0}, across, behind}, false},
		{"the first does not end where it began, and ends at a knot of its own", tail, [][]int{{3, 2, 0, 1, 2}}, false},
		{"the first is a way, the second closes it", four, [][]int{{0, 1, 2, 3}, {3, 0}, {0, 2}, {1, 3}}, false},
		{"a later one ends in no ear ahead", tail, [][]int{{0, 1, 2, 0}, {2, 3}}, false},
		{"a later one begins in no ear ahead", tail, [][]int{{0, 1, 2, 0}, {3, 2}}, false},
		{"a way in two pieces", n, [][]int{ring, {0, 4}, {4, 2}, behind}, false},
		{"both ends in no ear ahead", n, [][]int{ring, across, {5, 6}, {3, 5}, {6, 3}}, false},
		{"one that closes in itself behind a row", n, [][]int{ring, across, {3, 5, 6, 3, 5}}, false},
		{"an inner knot that is in an ear ahead", over, [][]int{{0, 1, 2, 0}, {0, 3, 1, 4, 2}}, false},
		{"an inner knot that is in an ear ahead, not the first", n, [][]int{ring, behind, {0, 4, 2}, {0, 4, 2}}, false},
		{"an inner knot that is in an ear ahead, of a ring", atTwo, [][]int{{2, 3, 4, 2}, {0, 1, 2, 0}}, false},
		{"an inner knot twice", loop, [][]int{{0, 1, 2, 0}, {0, 3, 4, 5, 3, 1}}, false},
		{"the same, rightly", loop, [][]int{{0, 1, 2, 0}, {0, 3, 1}, {3, 4, 5, 3}}, true},
		{"an inner knot twice, of the first", atTwo, [][]int{{0, 1, 2, 3, 4, 2, 0}}, false},
		{"an inner knot where the first began", atZero, [][]int{{0, 1, 2, 0, 3, 4, 0}}, false},
		{"an inner knot where a later one began", n, [][]int{ring, {3, 5, 6, 3, 5}, across}, false},
		{"two rings at a knot as one ear", earShapes()[3].net(), [][]int{{0, 1, 2, 0}, {0, 3, 4, 0, 5, 6, 0}}, false},
		{"a tie in two ears", three, [][]int{{0, 1, 2, 0}, {0, 1}}, false},
		{"a tie in two ears, gone over either way", three, [][]int{{0, 1, 2, 0}, {1, 0}}, false},
		{"a tie in two later ears", four, [][]int{{0, 1, 2, 0}, {0, 3, 1}, {2, 3}, {2, 3}}, false},
		{"a tie in two later ears, gone over either way", four, [][]int{{0, 1, 2, 0}, {0, 3, 1}, {2, 3}, {3, 2}}, false},
		{"a tie of the first in a later ear", four, [][]int{{0, 1, 2, 0}, {0, 1, 3}, {0, 3}, {2, 3}}, false},
		{"a ring twice", three, [][]int{{0, 1, 2, 0}, {0, 1, 2, 0}}, false},
		{"a ring twice, turned about", three, [][]int{{0, 1, 2, 0}, {0, 2, 1, 0}}, false},
		{"a ring gone over twice", three, [][]int{{0, 1, 2, 0, 1, 2, 0}}, false},
		{"a tie there and back", three, [][]int{{0, 1, 0, 2, 1, 2, 0}}, false},
		{"a tie in none", four, [][]int{{0, 1, 2, 0}, {0, 3, 1}}, false},
		{"a tie in none, of one ring of all", four, [][]int{{0, 1, 2, 3, 0}, {0, 2}}, false},
		{"a ring in none", atTwo, [][]int{{0, 1, 2, 0}}, false},
		{"a tie and its knot in none", tail, [][]int{{0, 1, 2, 0}}, false},
		{"a knot in none", netOf(4, 0, 1, 1, 2, 0, 2), [][]int{{0, 1, 2, 0}}, false},
		{"the knot 0 in none", netOf(4, 1, 2, 2, 3, 1, 3), [][]int{{1, 2, 3, 1}}, false},
		{"all other knots in none", netOf(8, 2, 3, 3, 6, 2, 6), [][]int{{2, 3, 6, 2}}, false},
		{"two parts", netOf(6, 0, 1, 1, 2, 0, 2, 3, 4, 4, 5, 3, 5), [][]int{{0, 1, 2, 0}, {3, 4, 5, 3}}, false},
		{"three rings in a row", rings, [][]int{{0, 1, 2, 0}, {2, 3, 4, 2}, {4, 5, 6, 4}}, true},
		{"three rings in a row, from the midst", rings, [][]int{{3, 4, 2, 3}, {4, 5, 6, 4}, {2, 1, 0, 2}}, true},
		{"three rings in a row, from the end", rings, [][]int{{5, 6, 4, 5}, {4, 3, 2, 4}, {2, 0, 1, 2}}, true},
		{"one ahead of that from which it hangs", rings, [][]int{{0, 1, 2, 0}, {4, 5, 6, 4}, {2, 3, 4, 2}}, false},
		{"a way ahead of the ring from which it hangs", n, [][]int{across, ring, behind}, false},
		{"a tie ahead of the way from which it hangs", four, [][]int{{0, 1, 2, 0}, {2, 3}, {0, 3, 1}}, false},
		{"a way whose ends are of two ears ahead", netOf(6, 0, 1, 1, 2, 0, 2, 2, 3, 3, 4, 2, 4, 1, 5, 3, 5), [][]int{{0, 1, 2, 0}, {2, 3, 4, 2}, {1, 5, 3}}, true},
		{"not tied", n, [][]int{{0, 2, 3, 0}, across, behind}, false},
		{"not tied, a later one", n, [][]int{ring, {0, 4, 1}, behind}, false},
		{"not tied at its end", n, [][]int{ring, across, {3, 5, 6, 2}}, false},
		{"a knot twice in a row", n, [][]int{{0, 1, 1, 2, 3, 0}, across, behind}, false},
		{"a number below 0", three, [][]int{{0, 1, -1, 2, 0}}, false},
		{"a number below 0 at both ends", three, [][]int{{-1, 0, 1, 2, -1}}, false},
		{"a number below 0 alone", three, [][]int{{-1}, {0, 1, 2, 0}}, false},
		{"a number past the end", three, [][]int{{0, 1, 3, 2, 0}}, false},
		{"a number past the end at both ends", three, [][]int{{3, 1, 2, 3}}, false},
		{"a number past the end of all", fullNet(), [][]int{{0, 1, 8, 0}}, false},
		{"a number past the end of all at both ends", fullNet(), [][]int{{8, 0, 1, 8}}, false},
		{"numbers that are no knots in a later one", three, [][]int{{0, 1, 2, 0}, {-1, 3}}, false},
		{"numbers that are no knots between, in a later one", n, [][]int{ring, {0, 7, 2}, behind}, false},
		{"far off", three, [][]int{{math.MinInt, math.MaxInt, 0, math.MinInt}}, false},
		{"past the end by a power of two", three, [][]int{{0, 1, 1<<32 + 2, 0}}, false},
		{"past the end by a power of two at both ends", three, [][]int{{64, 1, 2, 64}}, false},
		{"past the end by a lesser one", three, [][]int{{0, 1, 2 + impl.NetKnots, 0}}, false},
		{"a number that is none, where it ends", three, [][]int{{0, 1, 2, 64}}, false},
		{"far too long", three, [][]int{slices.Repeat([]int{0, 1, 2}, 5000)}, false},
		{"far too many", three, slices.Repeat([][]int{{0, 1, 2, 0}}, 5000), false},
		{"far too many, empty", three, make([][]int, 5000), false},
	} {
		if !impl.NetOk(c.net) {
			t.Fatalf("the test is wrong: %s", c.what)
		}
		if impl.EarOk(c.net, c.ears) != c.want {
			t.Errorf("%s: EarOk %v: %v", c.what, c.ears, !c.want)
		}
	}
}

// The edges of EarOpen. It is asked without a net, so that the rows need be no ears of any.
func TestEarsThatAreOpenOrNot(t *testing.T) {
	for _, c := range []struct {
		what string
		ears [][]int
		want bool
	}{
		{"no ears", nil, false},
		{"no ears, not nil", [][]int{}, false},
		{"a ring", [][]int{{0, 1, 2, 0}}, true},
		{"a row that is no ring", [][]int{{0, 1, 2}}, true},
		{"a row of one number", [][]int{{3}}, true},
		{"a row of no knots", [][]int{{}}, true},
		{"a nil row", [][]int{nil}, true},
		{"a ring, and a row", [][]int{{0, 1, 2, 0}, {0, 3, 1}}, true},
		{"a ring, and a tie", [][]int{{0, 1, 2, 3, 0}, {0, 2}}, true},
		{"a ring, and rows", [][]int{{0, 1, 2, 0}, {0, 3, 1}, {2, 3}, {3, 4, 5, 0}}, true},
		{"two rows, the first no ring", [][]int{{0, 1, 2}, {2, 0}}, true},
		{"two rings", [][]int{{0, 1, 2, 0}, {0, 3, 4, 0}}, false},
		{"two rings at two knots", [][]int{{0, 1, 2, 0}, {2, 3, 4, 2}}, false},
		{"a row that is no ring, and a ring", [][]int{{0, 1, 2}, {2, 3, 4, 2}}, false},
		{"a ring, a row and a ring", [][]int{{0, 1, 2, 0}, {0, 3, 1}, {2, 4, 5, 2}}, false},
		{"a ring, a ring and a row", [][]int{{0, 1, 2, 0}, {2, 4, 5, 2}, {0, 3, 1}}, false},
		{"a ring in the midst of many", [][]int{{0, 1, 2, 0}, {0, 3, 1}, {2, 4, 5, 2}, {0, 6, 1}}, false},
		{"the same ring twice", [][]int{{0, 1, 2, 0}, {0, 1, 2, 0}}, false},
		{"a later one of three numbers that ends where it began", [][]int{{0, 1, 2, 0}, {2, 3, 2}}, false},
		{"a later one of two numbers that ends where it began", [][]int{{0, 1, 2, 0}, {2, 2}}, false},
		{"a later one of one number", [][]int{{0, 1, 2, 0}, {2}}, false},
		{"a later one of no knots, which ends nowhere", [][]int{{0, 1, 2, 0}, {}}, true},
		{"a later nil one", [][]int{{0, 1, 2, 0}, nil}, true},
		{"rows of no knots", [][]int{{}, {}, {}}, true},
		{"a row of no knots, and a row", [][]int{{}, {0, 1}}, true},
		{"a row of no knots, and a ring", [][]int{{}, {0, 1, 2, 0}}, false},
		{"a later one that goes through where it began", [][]int{{0, 1, 2, 0}, {0, 3, 0, 1}}, true},
		{"a later one whose last but one is where it began", [][]int{{0, 1, 2, 0}, {3, 1, 2, 3, 4}}, true},
		{"a later one whose second is where it ends", [][]int{{0, 1, 2, 0}, {4, 3, 1, 2, 3}}, true},
		{"numbers below 0", [][]int{{-1, -2, -3, -1}, {-1, -4, -2}}, true},
		{"numbers below 0, of a later ring", [][]int{{-1, -2, -3, -1}, {-1, -4, -2, -1}}, false},
		{"far off", [][]int{{0, 1, 2, 0}, {math.MinInt, 0, math.MaxInt}}, true},
		{"far off, of a later ring", [][]int{{0, 1, 2, 0}, {math.MaxInt, 0, 1, math.MaxInt}}, false},
		{"past the end by a power of two", [][]int{{0, 1, 2, 0}, {0, 3, 1 << 32}}, true},
		{"far too many", append(slices.Repeat([][]int{{0, 1}}, 5000), []int{0, 1, 2, 0}), false},
		{"far too many, open", slices.Repeat([][]int{{0, 1}}, 5000), true},
	} {
		if impl.EarOpen(c.ears) != c.want {
			t.Errorf("%s: EarOpen: %v", c.what, !c.want)
		}
	}
}

// Of nets that are not ok, with what would be ears of many of them if the fault were passed over.
func TestEarsOfNetsThatAreNotOk(t *testing.T) {
	tries := [][][]int{nil, {}, {{}}, {{0}}, {{0, 1, 2, 0}}, {{0, 1, 2, 3, 0}}, {{0, 3, 2, 1, 0}}, {{0, 1, 2, 3, 0}, {1, 2}}, {{0, 1, 2, 3, 0}, {3, 4}}, {{0, 0}, {0, 1, 2, 3, 0}}, earsOfFull()}
	bad := append(badTwoNets(),
		badNet{"all pairs, with one knot too many", impl.Net{Knots: impl.NetKnots + 1, Ties: fullNet().Ties}},
		badNet{"all pairs, with one knot too few", impl.Net{Knots: impl.NetKnots - 1, Ties: fullNet().Ties}},
		badNet{"all pairs, with knots below 0", impl.Net{Knots: -impl.NetKnots, Ties: fullNet().Ties}},
		badNet{"all pairs, the last twice", impl.Net{Knots: impl.NetKnots, Ties: append(fullNet().Ties, impl.Tie{A: 6, B: 7})}},
		badNet{"all pairs, out of order", impl.Net{Knots: impl.NetKnots, Ties: turned(fullNet().Ties)}},
		badNet{"a ring of three with a tie turned about", impl.Net{Knots: 3, Ties: tiesOf(0, 1, 1, 2, 2, 0)}},
		badNet{"a ring of three out of order", impl.Net{Knots: 3, Ties: tiesOf(0, 1, 1, 2, 0, 2)}},
	)
	for _, b := range bad {
		if ears, ok := impl.EarOf(b.net); ok || len(ears) > 0 {
			t.Errorf("EarOf, %s: %v %v", b.name, ears, ok)
		}
		for _, ears := range tries {
			if impl.EarOk(b.net, ears) {
				t.Errorf("EarOk %v, %s: true", ears, b.name)
			}
		}
	}
}

// Numbers that are no knots, at each place of ears.
func TestEarsWithNumbersThatAreNoKnots(t *testing.T) {
	t.Parallel()
	n := netOf(5, 0, 1, 1, 2, 0, 2, 0, 3, 3, 1, 2, 4, 3, 4)
	ears := [][]int{{0, 1, 2, 0}, {0, 3, 1}, {2, 4, 3}}
	if !impl.EarOk(n, ears) {
		t.Fatal("the test is wrong")
	}
	for i, ear := range ears {
		for at := range ear {
			for _, k := range places() {
				if k >= 0 && k < n.Knots {
					continue
				}
				changed := cloneLists(ears)
				changed[i][at] = k
				both := cloneLists(ears)
				both[i][0], both[i][len(ear)-1] = k, k
				longer := cloneLists(ears)
				longer[i] = slices.Insert(longer[i], at, k)
				for _, rows := range [][][]int{changed, both, longer} {
					if impl.EarOk(n, rows) {
						t.Errorf("EarOk %v: true", rows)
					}
				}
			}
		}
	}
}

func expectEarsApart(t *testing.T, n impl.Net) {
	t.Helper()
	arg, whole := roomy(n)
	before := slices.Clone(whole)
	ears, ok := impl.EarOf(arg)
	want := cloneLists(ears)
	again, okAgain := impl.EarOf(arg)
	if !slices.Equal(whole, before) {
		t.Fatalf("%v: an argument was changed", n)
	}
	if ok != okAgain || !sameLists(again, want) {
		t.Fatalf("%v: asked again it answers %v, not %v", n, again, want)
	}
	expectListsApart(t, "EarOf", slices.Concat(ears, again))
	if !slices.Equal(whole, before) {
		t.Fatalf("%v: an answer shares memory with its argument", n)
	}
	// Nothing is kept: whatever was written into answers, all is as it was.
	behind, okBehind := impl.EarOf(arg)
	if ok != okBehind || !sameLists(behind, want) {
		t.Fatalf("%v: asked behind that it answers %v, not %v", n, behind, want)
	}
	// The room of the list of ears is its own, too.
	for i := range behind[:cap(behind)] {
		behind[:cap(behind)][i] = []int{-1}
	}
	// The net is looked at alone, not the room behind its ties.
	tight, okTight := impl.EarOf(impl.Net{Knots: n.Knots, Ties: slices.Clip(slices.Clone(n.Ties))})
	if ok != okTight || !sameLists(tight, want) {
		t.Fatalf("%v: it answers %v by the room of its ties, not %v", n, tight, want)
	}
}

func TestMemoryOfEarsIsApart(t *testing.T) {
	t.Parallel()
	for g := range earGrids() {
		expectEarsApart(t, g.net())
	}
	for _, bad := range badTwoNets() {
		expectEarsApart(t, bad.net)
	}
}

// Ears that are asked about are not changed, nor what lies behind their ends, nor behind the end of the list of them.
func TestEarsThatAreAskedAboutAreNotChanged(t *testing.T) {
	rows := [][]int{nil, {0}, {0, 2}, {0, 1, 2, 0}, {0, 3, 1}, {1, 3, 0}, {0, 1, 0}, {0, 9, 2}, {2, 3}, {0, 1, 2, 3, 0}, {0, 1, 2, 3, 4, 5, 6, 7, 0}}
	for _, n := range []impl.Net{fullNet(), netOf(4, 0, 1, 0, 2, 1, 2, 0, 3, 1, 3), netOf(4, 0, 1, 1, 2, 2, 3, 0, 3, 0, 2), {}, {Knots: 99}} {
		for _, x := range rows {
			for _, y := range rows {
				argX, wholeX := roomyRow(x)
				argY, wholeY := roomyRow(y)
				net, ties := roomy(n)
				// Behind the end lies a row that would be an ear.
				list := [][]int{argX, argY, {2, 3}}
				beforeX, beforeY, tiesBefore := slices.Clone(wholeX), slices.Clone(wholeY), slices.Clone(ties)
				first, open := impl.EarOk(net, list[:2]), impl.EarOpen(list[:2])
				if first != impl.EarOk(net, list[:2]) || open != impl.EarOpen(list[:2]) {
					t.Errorf("%v: %v and %v are ears, or open, or not by how often it is asked", n, x, y)
				}
				tight := [][]int{slices.Clip(slices.Clone(x)), slices.Clip(slices.Clone(y))}
				if first != impl.EarOk(n, tight) || open != impl.EarOpen(tight) {
					t.Errorf("%v: %v and %v are ears, or open, or not by their room", n, x, y)
				}
				if !slices.Equal(wholeX, beforeX) || !slices.Equal(wholeY, beforeY) || !slices.Equal(ties, tiesBefore) {
					t.Errorf("%v: asked about %v and %v, an argument was changed", n, x, y)
				}
				if !slices.Equal(list[0], x) || !slices.Equal(list[1], y) || !slices.Equal(list[2], []int{2, 3}) {
					t.Errorf("%v: asked about %v and %v, the list of them was changed", n, x, y)
				}
			}
		}
	}
}

// Ears may lie in one list, and share their ends in it: what they share does not count, only their knots.
func TestEarsThatShareMemoryMayBeOk(t *testing.T) {
	whole := []int{1, 2, 0, 1, 3, 0}
	n := netOf(4, 0, 1, 0, 2, 1, 2, 0, 3, 1, 3)
	ears := [][]int{whole[:4], whole[3:]}
	if !impl.EarOk(n, ears) || !impl.EarOpen(ears) || impl.EarOk(n, [][]int{whole[:4], whole[:4]}) || impl.EarOpen([][]int{whole[:4], whole[:4]}) {
		t.Error("EarOk, or EarOpen, of rows of one list")
	}
	if !slices.Equal(whole, []int{1, 2, 0, 1, 3, 0}) {
		t.Error("EarOk changed its rows")
	}
}
