package tests

import (
	"math"
	"slices"
	"testing"

	"loop.example/osier/impl"
)

// P47: by what the program itself says of blocks.
func TestTwoKnotsOfOneBlockHaveTwoWays(t *testing.T) {
	t.Parallel()
	for g := range twoGrids() {
		n := g.net()
		knots := impl.BlockKnots(n)
		for place, block := range impl.BlockList(n) {
			if len(block) < 2 {
				continue
			}
			for _, a := range knots[place] {
				for _, b := range knots[place] {
					x, y, ok := impl.TwoFind(n, a, b)
					if ok != (a != b) || ok && !impl.TwoOk(n, a, b, x, y) {
						t.Fatalf("TwoFind %v %d %d, of the block %v: %v %v %v", n, a, b, block, x, y, ok)
					}
				}
			}
		}
	}
}

// P48: of any two ways between the same knots.
func TestApartEitherWayAndTurnedAbout(t *testing.T) {
	t.Parallel()
	for g := range twoGrids() {
		if !g.fewWays() {
			continue
		}
		n := g.net()
		for a, b := range pairsEitherWay(g.knots) {
			all := impl.WayAll(n, a, b)
			for _, x := range all {
				for _, y := range all {
					want := areApart(a, b, x, y)
					if impl.TwoOk(n, a, b, x, y) != want || impl.TwoOk(n, a, b, y, x) != want {
						t.Fatalf("TwoOk %v %d %d %v %v, or the other way: not %v", n, a, b, x, y, want)
					}
					if impl.TwoOk(n, b, a, turned(x), turned(y)) != want || impl.TwoOk(n, b, a, turned(y), turned(x)) != want {
						t.Fatalf("TwoOk %v %d %d %v %v turned about: not %v", n, a, b, x, y, want)
					}
					// Turned about they lead elsewhere.
					if impl.TwoOk(n, b, a, x, y) || impl.TwoOk(n, a, b, turned(x), turned(y)) || impl.TwoOk(n, a, b, x, turned(y)) || impl.TwoOk(n, a, b, turned(x), y) {
						t.Fatalf("TwoOk %v %d %d %v %v, some turned about: true", n, a, b, x, y)
					}
				}
			}
		}
	}
}

// P48: two ways that are found.
func TestTwoThatAreFoundEitherWayAndTurnedAbout(t *testing.T) {
	t.Parallel()
	for g := range twoGrids() {
		n := g.net()
		for a, b := range pairsEitherWay(g.knots) {
			x, y, ok := impl.TwoFind(n, a, b)
			if !ok {
				continue
			}
			if !impl.TwoOk(n, a, b, y, x) || !impl.TwoOk(n, b, a, turned(x), turned(y)) || !impl.TwoOk(n, b, a, turned(y), turned(x)) {
				t.Fatalf("%v: %v and %v are apart, but not the other way, or turned about", n, x, y)
			}
			if impl.TwoOk(n, a, b, x, x) || impl.TwoOk(n, a, b, y, y) {
				t.Fatalf("%v: %v or %v is apart from itself", n, x, y)
			}
		}
	}
}

// P49: by the program, and by the document's words.
func TestTwoThatAreFoundAreApart(t *testing.T) {
	t.Parallel()
	for g := range twoGrids() {
		n := g.net()
		for a := range g.knots {
			for b := range g.knots {
				x, y, ok := impl.TwoFind(n, a, b)
				if ok && (!impl.TwoOk(n, a, b, x, y) || !g.isTwo(a, b, x, y)) {
					t.Fatalf("TwoFind %v %d %d: %v and %v are not apart", n, a, b, x, y)
				}
				if !ok && (len(x) > 0 || len(y) > 0) {
					t.Fatalf("TwoFind %v %d %d: %v and %v beside false", n, a, b, x, y)
				}
			}
		}
	}
}

// P50: just one, each with a witness that is held against the document's words.
func TestOfTwoKnotsJustOneIsSo(t *testing.T) {
	t.Parallel()
	for g := range twoGrids() {
		n, parts := g.net(), impl.WayParts(g.net())
		for a, b := range pairsEitherWay(g.knots) {
			x, y, two := impl.TwoFind(n, a, b)
			k, parted := impl.TwoCut(n, a, b)
			bridge, separate := impl.BridgeIs(n, a, b), parts[a] != parts[b]
			count := 0
			for _, is := range []bool{two, parted, bridge, separate} {
				if is {
					count++
				}
			}
			if count != 1 {
				t.Fatalf("%v, %d and %d: two ways %v, a knot %v, a bridge %v, two parts %v", n, a, b, two, parted, bridge, separate)
			}
			good := false
			switch {
			case two:
				good = g.isTwo(a, b, x, y)
			case parted:
				good = k != a && k != b && g.onePart(a, b) && !g.without(k).onePart(a, b)
			case bridge:
				good = g.has(a, b) && !g.set(a, b, false).onePart(a, b)
			default:
				good = !g.onePart(a, b)
			}
			if !good {
				t.Fatalf("%v, %d and %d: no witness: two ways %v %v %v, a knot %d %v, a bridge %v, two parts %v", n, a, b, x, y, two, k, parted, bridge, separate)
			}
		}
	}
}

// P51: by what the program itself says of all ways, and of knots that cut.
func TestTwoCutIsTheLeastKnotOnAllWays(t *testing.T) {
	t.Parallel()
	for g := range twoGrids() {
		n := g.net()
		cuts := impl.BlockCuts(n)
		for a, b := range pairsEitherWay(g.knots) {
			all := impl.WayAll(n, a, b)
			want, parted := 0, false
			for k := range g.knots {
				if k != a && k != b && len(all) > 0 && isOnAll(all, k) {
					want, parted = k, true
					break
				}
			}
			got, ok := impl.TwoCut(n, a, b)
			if got != want || ok != parted {
				t.Fatalf("TwoCut %v %d %d: %d %v, not %d %v", n, a, b, got, ok, want, parted)
			}
			if ok && !slices.Contains(cuts, got) {
				t.Fatalf("TwoCut %v %d %d: %d, which does not cut", n, a, b, got)
			}
		}
	}
}

// P51: by parts, and by numbers that are no knots.
func TestTwoCutOfAnyTwo(t *testing.T) {
	t.Parallel()
	for g := range grids() {
		n := g.net()
		for _, a := range places() {
			for _, b := range places() {
				want, parted := g.parter(a, b)
				if got, ok := impl.TwoCut(n, a, b); got != want || ok != parted {
					t.Fatalf("TwoCut %v %d %d: %d %v, not %d %v", n, a, b, got, ok, want, parted)
				}
			}
		}
	}
}

// P52: by what the program itself says of blocks.
func TestTwoWaysJustIfInOneBlock(t *testing.T) {
	t.Parallel()
	for g := range twoGrids() {
		n := g.net()
		list, knots := impl.BlockList(n), impl.BlockKnots(n)
		for a := range g.knots {
			for b := range g.knots {
				want := false
				for place, block := range list {
					in := slices.Contains(knots[place], a) && slices.Contains(knots[place], b)
					want = want || a != b && len(block) > 1 && in
				}
				if _, _, ok := impl.TwoFind(n, a, b); ok != want {
					t.Fatalf("TwoFind %v %d %d: %v, of blocks %v", n, a, b, ok, list)
				}
			}
		}
	}
}

// P53: by what the program itself says of all ways, and of two.
func TestNoWayAheadHasOneBesideIt(t *testing.T) {
	t.Parallel()
	for g := range twoGrids() {
		n := g.net()
		for a, b := range pairsEitherWay(g.knots) {
			x, y, ok := impl.TwoFind(n, a, b)
			if !ok {
				continue
			}
			all := impl.WayAll(n, a, b)
			for _, way := range all {
				if standsAhead(way, y) && impl.TwoOk(n, a, b, x, way) {
					t.Fatalf("TwoFind %v %d %d: beside %v %v, though %v stands ahead", n, a, b, x, y, way)
				}
				if !standsAhead(way, x) {
					continue
				}
				for _, other := range all {
					if impl.TwoOk(n, a, b, way, other) {
						t.Fatalf("TwoFind %v %d %d: %v, though %v stands ahead, and has %v beside it", n, a, b, x, way, other)
					}
				}
			}
		}
	}
}

// expectTwos fails if of any of these two numbers TwoFind does not answer as the document's words say, of all ways.
func expectTwos(t *testing.T, g grid, ways *between, numbers []int) {
	t.Helper()
	n := g.net()
	for _, a := range numbers {
		for _, b := range numbers {
			var wantX, wantY []int
			want := false
			if g.isKnot(a) && g.isKnot(b) {
				wantX, wantY, want = twoOf(a, b, ways[a][b])
			}
			x, y, ok := impl.TwoFind(n, a, b)
			if ok != want || !slices.Equal(x, wantX) || !slices.Equal(y, wantY) {
				t.Fatalf("TwoFind %v %d %d: %v %v %v, not %v %v %v", n, a, b, x, y, ok, wantX, wantY, want)
			}
		}
	}
}

// P49, P53: all nets of at most six knots, by ways that are taken from all rows of knots.
func TestTwosOfAllSmallNets(t *testing.T) {
	t.Parallel()
	rows := newRowTable()
	for g := range allGrids(6) {
		expectTwos(t, g, g.ways(rows), knotsOf(g.knots))
	}
}

// P49, P53: greater ones so too, and numbers that are no knots.
func TestTwoFindOfAnyTwo(t *testing.T) {
	t.Parallel()
	rows := newRowTable()
	for g := range twoGrids() {
		if g.knots >= 6 {
			expectTwos(t, g, g.ways(rows), knotsOf(g.knots))
		}
	}
	for g := range grids() {
		if g.knots <= 4 {
			expectTwos(t, g, g.ways(rows), places())
		}
	}
	for _, g := range twoShapes() {
		expectTwos(t, g, g.ways(rows), places())
	}
	expectTwos(t, gridOf(impl.NetKnots, math.MaxUint64), gridOf(impl.NetKnots, math.MaxUint64).ways(rows), places())
}

// P50, P51: all nets of at most six knots, by the document's words.
func TestTwoCutOfAllSmallNets(t *testing.T) {
	t.Parallel()
	for g := range allGrids(6) {
		n, parts := g.net(), g.parts()
		var left [impl.NetKnots][]int
		for k := range g.knots {
			left[k] = g.without(k).parts()
		}
		for a, b := range pairsEitherWay(g.knots) {
			want, parted := 0, false
			for k := 0; k < g.knots && !parted && parts[a] == parts[b] && !g.has(a, b); k++ {
				if k != a && k != b && left[k][a] != left[k][b] {
					want, parted = k, true
				}
			}
			if got, ok := impl.TwoCut(n, a, b); got != want || ok != parted {
				t.Fatalf("TwoCut %v %d %d: %d %v, not %d %v", n, a, b, got, ok, want, parted)
			}
		}
	}
}

// P54: those that are found; and none stands behind the one that was found ahead.
func TestWithATieMoreTwoWaysStayApart(t *testing.T) {
	t.Parallel()
	for g := range twoGrids() {
		n := g.net()
		for _, tie := range others(pairsOf(g.knots), n.Ties) {
			more, _ := impl.NetAdd(n, tie.A, tie.B)
			for a, b := range pairsEitherWay(g.knots) {
				x, y, ok := impl.TwoFind(n, a, b)
				if !ok {
					continue
				}
				if !impl.TwoOk(more, a, b, x, y) {
					t.Fatalf("%v with %v: %v and %v are apart no more", n, tie, x, y)
				}
				laterX, laterY, later := impl.TwoFind(more, a, b)
				if !later || !impl.TwoOk(more, a, b, laterX, laterY) || standsAhead(x, laterX) {
					t.Fatalf("%v with %v: %v and %v are found, ahead of it %v and %v: %v", n, tie, laterX, laterY, x, y, later)
				}
			}
		}
	}
}

// P54: of nets with few ways all that are apart.
func TestWithATieMoreAnyTwoStayApart(t *testing.T) {
	t.Parallel()
	for _, g := range slices.Concat(shapes(), blockShapes(), twoShapes()) {
		if !g.fewWays() {
			continue
		}
		n := g.net()
		for a, b := range pairsEitherWay(g.knots) {
			for x, y := range apartPairs(a, b, impl.WayAll(n, a, b)) {
				for _, tie := range others(pairsOf(g.knots), n.Ties) {
					more, _ := impl.NetAdd(n, tie.A, tie.B)
					if !impl.TwoOk(more, a, b, x, y) {
						t.Fatalf("%v with %v: %v and %v are apart no more", n, tie, x, y)
					}
				}
			}
		}
	}
}

// P55: all that are apart, of nets with few ways; of others those that are found.
func TestAllTiesOfTwoWaysAreInOneBlock(t *testing.T) {
	t.Parallel()
	for g := range twoGrids() {
		n := g.net()
		list := impl.BlockList(n)
		check := func(a, b int, x, y []int) {
			ties := slices.Concat(wayTies(x), wayTies(y))
			place := placeOf(list, ties[0])
			if place < 0 || len(others(ties, list[place])) > 0 {
				t.Fatalf("%v: %v and %v, from %d to %d, are not of one block of %v", n, x, y, a, b, list)
			}
			for _, tie := range ties {
				if !impl.BlockSame(n, ties[0], tie) {
					t.Fatalf("%v: %v and %v, of %v and %v, are in two blocks", n, ties[0], tie, x, y)
				}
			}
		}
		for a, b := range pairsEitherWay(g.knots) {
			if x, y, ok := impl.TwoFind(n, a, b); ok {
				check(a, b, x, y)
			}
			if g.knots > 4 && len(n.Ties) > g.knots+2 {
				continue
			}
			for x, y := range apartPairs(a, b, impl.WayAll(n, a, b)) {
				if !impl.TwoOk(n, a, b, x, y) {
					t.Fatalf("TwoOk %v %d %d %v %v: false", n, a, b, x, y)
				}
				check(a, b, x, y)
			}
		}
	}
}

// P56.
func TestFromTheOtherKnotItIsTheSame(t *testing.T) {
	t.Parallel()
	for g := range twoGrids() {
		n := g.net()
		for a := range g.knots {
			for b := range a {
				x, y, ok := impl.TwoFind(n, a, b)
				otherX, otherY, other := impl.TwoFind(n, b, a)
				if ok != other || ok && !impl.TwoOk(n, a, b, turned(otherX), turned(otherY)) {
					t.Fatalf("TwoFind %v %d %d: %v %v %v, and the other way %v %v %v", n, a, b, x, y, ok, otherX, otherY, other)
				}
				// The first that has one beside it is as long from either knot.
				if len(x) != len(otherX) {
					t.Fatalf("TwoFind %v %d %d: %v, and the other way %v", n, a, b, x, otherX)
				}
				k, parted := impl.TwoCut(n, a, b)
				if otherK, too := impl.TwoCut(n, b, a); k != otherK || parted != too {
					t.Fatalf("TwoCut %v %d %d: %d %v, and the other way %d %v", n, a, b, k, parted, otherK, too)
				}
			}
		}
	}
}

// rowsOfNumbers is all rows of at most so many of these numbers, which may be there twice.
func rowsOfNumbers(numbers []int, most int) [][]int {
	out := [][]int{nil}
	for from := 0; most > 0; most-- {
		till := len(out)
		for _, row := range out[from:till] {
			for _, k := range numbers {
				out = append(out, append(slices.Clone(row), k))
			}
		}
		from = till
	}
	return out
}

// TwoOk of any two short rows, knots twice and numbers that are no knots among them, by the document's words.
func TestTwoOkOfAllShortRows(t *testing.T) {
	t.Parallel()
	for g := range allGrids(3) {
		n := g.net()
		numbers := []int{-1}
		for k := 0; k <= g.knots; k++ {
			numbers = append(numbers, k)
		}
		rows := rowsOfNumbers(numbers, 3)
		for _, a := range numbers {
			for _, b := range numbers {
				for _, x := range rows {
					for _, y := range rows {
						if want := g.isTwo(a, b, x, y); impl.TwoOk(n, a, b, x, y) != want {
							t.Fatalf("TwoOk %v %d %d %v %v: %v", n, a, b, x, y, !want)
						}
					}
				}
			}
		}
	}
}

// TwoOk of any two rows of four knots, none twice, whichever the ends.
func TestTwoOkOfAllRowsOfFour(t *testing.T) {
	t.Parallel()
	rows := rowsOf(4)
	for chosen := range uint64(1 << 6) {
		g := gridOf(4, chosen)
		n := g.net()
		for _, x := range rows {
			for _, y := range rows {
				for a := range 4 {
					for b := range 4 {
						if want := g.isTwo(a, b, x, y); impl.TwoOk(n, a, b, x, y) != want {
							t.Fatalf("TwoOk %v %d %d %v %v: %v", n, a, b, x, y, !want)
						}
					}
				}
			}
		}
	}
}

// TwoOk of ways that are apart with one number changed, left out, or put in.
func TestTwoOkOfRowsNearTwoWays(t *testing.T) {
	t.Parallel()
	for _, g := range slices.Concat(shapes(), blockShapes(), twoShapes()) {
		n := g.net()
		for a, b := range pairsEitherWay(g.knots) {
			x, y, ok := impl.TwoFind(n, a, b)
			if !ok {
				continue
			}
			for _, near := range rowsNear(y) {
				want := g.isTwo(a, b, x, near)
				if impl.TwoOk(n, a, b, x, near) != want || impl.TwoOk(n, a, b, near, x) != want {
					t.Fatalf("TwoOk %v %d %d %v %v, or the other way: %v", n, a, b, x, near, !want)
				}
			}
		}
	}
}

// rowsNear is a row with one number changed, left out, or put in.
func rowsNear(row []int) [][]int {
	var out [][]int
	for i := range row {
		out = append(out, without(row, i))
		for k := -1; k <= impl.NetKnots; k++ {
			changed := slices.Clone(row)
			changed[i] = k
			out = append(out, changed)
		}
	}
	for i := 0; i <= len(row); i++ {
		for k := -1; k <= impl.NetKnots; k++ {
			out = append(out, slices.Insert(slices.Clone(row), i, k))
		}
	}
	return out
}

// Rows that are no two ways that are apart, each for one reason, in either order.
func TestRowsThatAreNotTwoWays(t *testing.T) {
	// A ring of six with a tie across, one that hangs from it, and one alone.
	n := netOf(8, 0, 1, 1, 2, 2, 3, 3, 4, 4, 5, 0, 5, 1, 4, 3, 6)
	for _, c := range []struct {
		what string
		a, b int
		x, y []int
		want bool
	}{
		{"two ways", 0, 3, []int{0, 1, 2, 3}, []int{0, 5, 4, 3}, true},
		{"the tie of both, and another way", 1, 4, []int{1, 4}, []int{1, 2, 3, 4}, true},
		{"the tie of both, and a third way", 1, 4, []int{1, 4}, []int{1, 0, 5, 4}, true},
		{"neither the tie of both", 1, 4, []int{1, 2, 3, 4}, []int{1, 0, 5, 4}, true},
		{"all but one knot", 0, 1, []int{0, 1}, []int{0, 5, 4, 3, 2, 1}, true},
		{"both empty", 0, 3, nil, nil, false},
		{"both empty, not nil", 0, 3, []int{}, []int{}, false},
		{"one empty", 0, 3, []int{0, 1, 2, 3}, nil, false},
		{"not tied", 0, 3, []int{0, 1, 2, 3}, []int{0, 4, 3}, false},
		{"a tie that is none", 0, 3, []int{0, 1, 2, 3}, []int{0, 3}, false},
		{"the ends alone, twice", 0, 3, []int{0, 3}, []int{0, 3}, false},
		{"a tie is missing at the end", 0, 3, []int{0, 1, 2, 3}, []int{0, 5, 3}, false},
		{"one begins elsewhere", 0, 3, []int{0, 1, 2, 3}, []int{5, 4, 3}, false},
		{"one ends elsewhere", 0, 3, []int{0, 1, 2, 3}, []int{0, 5, 4}, false},
		{"one ends past it", 0, 3, []int{0, 1, 2}, []int{0, 5, 4, 3}, false},
		{"one goes on behind the end", 0, 3, []int{0, 1, 2, 3, 6}, []int{0, 5, 4, 3}, false},
		{"one comes from ahead of the beginning", 1, 3, []int{0, 1, 2, 3}, []int{1, 4, 3}, false},
		{"one turned about", 0, 3, []int{0, 1, 2, 3}, []int{3, 4, 5, 0}, false},
		{"both turned about", 0, 3, []int{3, 2, 1, 0}, []int{3, 4, 5, 0}, false},
		{"of other ends", 1, 3, []int{0, 1, 2, 3}, []int{0, 5, 4, 3}, false},
		{"both of one other end", 0, 2, []int{0, 1, 2, 3}, []int{0, 5, 4, 3}, false},
		{"a knot alone", 0, 3, []int{0}, []int{0, 5, 4, 3}, false},
		{"two knots alone", 0, 3, []int{0}, []int{3}, false},
		{"a knot twice", 0, 3, []int{0, 1, 2, 3}, []int{0, 5, 4, 5, 4, 3}, false},
		{"the first knot twice", 0, 3, []int{0, 1, 2, 3}, []int{0, 5, 0, 5, 4, 3}, false},
		{"the last knot twice", 0, 3, []int{0, 1, 2, 3}, []int{0, 5, 4, 3, 6, 3}, false},
		{"a knot twice in a row", 0, 3, []int{0, 1, 2, 3}, []int{0, 5, 5, 4, 3}, false},
		{"one knot in common", 0, 3, []int{0, 1, 2, 3}, []int{0, 5, 4, 1, 2, 3}, false},
		{"the first knot between in common", 0, 3, []int{0, 1, 2, 3}, []int{0, 1, 4, 3}, false},
		{"the last knot between in common", 0, 3, []int{0, 1, 4, 3}, []int{0, 5, 4, 3}, false},
		{"one knot in common, gone through the other way", 0, 3, []int{0, 1, 4, 3}, []int{0, 5, 4, 1, 2, 3}, false},
		{"the same way twice", 0, 3, []int{0, 1, 2, 3}, []int{0, 1, 2, 3}, false},
		{"the tie of both twice", 1, 4, []int{1, 4}, []int{1, 4}, false},
		{"the tie of both twice, turned about", 4, 1, []int{4, 1}, []int{4, 1}, false},
		{"the tie of both, once turned about", 1, 4, []int{1, 4}, []int{4, 1}, false},
		{"a bridge twice", 3, 6, []int{3, 6}, []int{3, 6}, false},
		{"a bridge, and a way back to it", 3, 6, []int{3, 6}, []int{3, 4, 3, 6}, false},
		{"over a bridge", 0, 6, []int{0, 1, 2, 3, 6}, []int{0, 5, 4, 3, 6}, false},
		{"the same knot, ways of it alone", 0, 0, []int{0}, []int{0}, false},
		{"the same knot, a ring", 1, 1, []int{1, 2, 3, 4, 1}, []int{1, 0, 5, 4, 1}, false},
		{"the same knot, to and fro", 1, 1, []int{1, 2, 1}, []int{1, 0, 1}, false},
		{"the same knot, other ways", 0, 0, []int{0, 1, 2, 3}, []int{0, 5, 4, 3}, false},
		{"one alone", 7, 7, []int{7}, []int{7}, false},
		{"of two parts", 0, 7, []int{0, 7}, []int{0, 1, 7}, false},
		{"a knot below 0", 0, -1, []int{0, 1, 2, -1}, []int{0, 5, 4, -1}, false},
		{"a knot below 0 between", 0, 3, []int{0, 1, 2, 3}, []int{0, -1, 3}, false},
		{"a knot past the end", 8, 3, []int{8, 2, 3}, []int{8, 4, 3}, false},
		{"a knot past the end between", 0, 3, []int{0, 1, 2, 3}, []int{0, 8, 3}, false},
		{"far off", math.MinInt, math.MaxInt, []int{math.MinInt, math.MaxInt}, []int{math.MinInt, 0, math.MaxInt}, false},
		{"past the end by a power of two", 0, 3, []int{0, 1, 2, 3}, []int{0, 1<<32 + 5, 4, 3}, false},
		{"ends past the end by a power of two", 1 << 32, 3, []int{0, 1, 2, 3}, []int{0, 5, 4, 3}, false},
		{"far too long", 0, 3, []int{0, 1, 2, 3}, slices.Repeat([]int{0, 5, 4, 3}, 5000), false},
		{"far too long, both", 1, 4, slices.Repeat([]int{1, 4}, 9000), slices.Repeat([]int{1, 4}, 9000), false},
	} {
		if impl.TwoOk(n, c.a, c.b, c.x, c.y) != c.want {
			t.Errorf("%s: TwoOk %d %d %v %v: %v", c.what, c.a, c.b, c.x, c.y, !c.want)
		}
		if impl.TwoOk(n, c.a, c.b, c.y, c.x) != c.want {
			t.Errorf("%s, in the other order: TwoOk %d %d %v %v: %v", c.what, c.a, c.b, c.y, c.x, !c.want)
		}
	}
}

// asked is two numbers of a net, and what is answered of them: ways, if there are two that are apart, and a knot, if one parts them.
type asked struct {
	what   string
	net    impl.Net
	a, b   int
	x, y   []int
	knot   int
	parted bool
}

// expectAsked fails if it is not so.
func expectAsked(t *testing.T, c asked) {
	t.Helper()
	if !impl.NetOk(c.net) {
		t.Fatalf("the test is wrong: %s", c.what)
	}
	x, y, ok := impl.TwoFind(c.net, c.a, c.b)
	if !slices.Equal(x, c.x) || !slices.Equal(y, c.y) || ok != (len(c.x) > 0) {
		t.Errorf("%s: TwoFind %d %d: %v %v %v, not %v %v", c.what, c.a, c.b, x, y, ok, c.x, c.y)
	}
	if ok && !impl.TwoOk(c.net, c.a, c.b, x, y) {
		t.Errorf("%s: TwoOk %d %d %v %v: false", c.what, c.a, c.b, x, y)
	}
	if knot, parted := impl.TwoCut(c.net, c.a, c.b); knot != c.knot || parted != c.parted {
		t.Errorf("%s: TwoCut %d %d: %d %v, not %d %v", c.what, c.a, c.b, knot, parted, c.knot, c.parted)
	}
}

// The edges, each with what is answered written out: where there are no two ways, nor a knot that parts.
func TestNeitherTwoWaysNorAKnot(t *testing.T) {
	ring := netOf(5, 0, 1, 1, 2, 2, 3, 0, 3)
	rings := netOf(6, 0, 1, 0, 2, 1, 2, 3, 4, 3, 5, 4, 5)
	joined := netOf(6, 0, 1, 0, 2, 1, 2, 2, 3, 3, 4, 3, 5, 4, 5)
	for _, c := range []asked{
		{what: "no knots", a: 0, b: 0},
		{what: "no knots, two", a: 0, b: 1},
		{what: "no knots, below 0", a: -1, b: 0},
		{what: "one knot", net: impl.Net{Knots: 1}, a: 0, b: 0},
		{what: "one knot, and none", net: impl.Net{Knots: 1}, a: 0, b: 1},
		{what: "one knot, and none, turned about", net: impl.Net{Knots: 1}, a: 1, b: 0},
		{what: "two alone", net: impl.Net{Knots: 2}, a: 0, b: 1},
		{what: "all alone", net: impl.Net{Knots: impl.NetKnots}, a: 2, b: 5},
		{what: "all alone, the same", net: impl.Net{Knots: impl.NetKnots}, a: 7, b: 7},
		{what: "a tie alone", net: netOf(2, 0, 1), a: 0, b: 1},
		{what: "a tie alone, turned about", net: netOf(2, 0, 1), a: 1, b: 0},
		{what: "a tie alone, the same", net: netOf(2, 0, 1), a: 1, b: 1},
		{what: "tied by a bridge between rings", net: joined, a: 2, b: 3},
		{what: "tied by a bridge between rings, turned about", net: joined, a: 3, b: 2},
		{what: "tied by a bridge, one end of which has no other tie", net: netOf(4, 0, 1, 1, 2, 0, 2, 0, 3), a: 3, b: 0},
		{what: "tied by a bridge, both ends of which cut", net: netOf(4, 0, 1, 1, 2, 2, 3), a: 1, b: 2},
		{what: "the same, in a ring", net: ring, a: 1, b: 1},
		{what: "the same, the first of a ring", net: ring, a: 0, b: 0},
		{what: "the same, a knot that cuts", net: joined, a: 2, b: 2},
		{what: "the same, all pairs tied", net: fullNet(), a: 3, b: 3},
		{what: "of two parts, one alone", net: ring, a: 4, b: 0},
		{what: "of two parts, one alone, turned about", net: ring, a: 2, b: 4},
		{what: "of two parts, each a ring", net: rings, a: 1, b: 4},
		{what: "of two parts, each with knots that cut", net: netOf(6, 0, 1, 1, 2, 3, 4, 4, 5), a: 0, b: 5},
		{what: "below 0", net: ring, a: -1, b: 1},
		{what: "both below 0", net: ring, a: -2, b: -1},
		{what: "past the end", net: ring, a: 1, b: 5},
		{what: "past the end of all", net: fullNet(), a: 1, b: impl.NetKnots},
		{what: "the same, past the end", net: ring, a: 5, b: 5},
		{what: "far past both ends", net: ring, a: math.MinInt, b: math.MaxInt},
		{what: "past the end by a power of two", net: ring, a: 0, b: 1<<32 + 2},
		{what: "past the end by a power of two, of a line", net: netOf(3, 0, 1, 1, 2), a: 1 << 32, b: 2},
		{what: "far below 0, so that its double wraps round to a knot's", net: ring, a: 0, b: math.MinInt + 2},
	} {
		expectAsked(t, c)
	}
}

// The edges, where two ways are apart.
func TestTwoWaysAsWritten(t *testing.T) {
	ring := netOf(8, 0, 1, 1, 2, 2, 3, 3, 4, 4, 5, 5, 6, 6, 7, 0, 7)
	four := netOf(5, 0, 1, 1, 2, 2, 3, 0, 3)
	pair := netOf(5, 0, 1, 0, 2, 1, 2, 2, 3, 2, 4, 3, 4)
	shared := netOf(4, 0, 1, 0, 2, 1, 2, 1, 3, 2, 3)
	ladder := netOf(6, 0, 1, 1, 2, 3, 4, 4, 5, 0, 3, 1, 4, 2, 5)
	full, open := fullNet(), gridOf(impl.NetKnots, math.MaxUint64).set(0, 7, false).net()
	for _, c := range []asked{
		{what: "tied, not by a bridge", net: four, a: 0, b: 1, x: []int{0, 1}, y: []int{0, 3, 2, 1}},
		{what: "tied, not by a bridge, turned about", net: four, a: 1, b: 0, x: []int{1, 0}, y: []int{1, 2, 3, 0}},
		{what: "a ring of three", net: netOf(3, 0, 1, 1, 2, 0, 2), a: 2, b: 0, x: []int{2, 0}, y: []int{2, 1, 0}},
		{what: "a ring of four, across", net: four, a: 1, b: 3, x: []int{1, 0, 3}, y: []int{1, 2, 3}},
		{what: "one ring, tied: a way of all knots", net: ring, a: 0, b: 1, x: []int{0, 1}, y: []int{0, 7, 6, 5, 4, 3, 2, 1}},
		{what: "one ring, the last tie: a way of all knots", net: ring, a: 7, b: 0, x: []int{7, 0}, y: []int{7, 6, 5, 4, 3, 2, 1, 0}},
		{what: "one ring, across", net: ring, a: 0, b: 4, x: []int{0, 1, 2, 3, 4}, y: []int{0, 7, 6, 5, 4}},
		{what: "one ring, across, turned about", net: ring, a: 4, b: 0, x: []int{4, 3, 2, 1, 0}, y: []int{4, 5, 6, 7, 0}},
		{what: "one ring, nearer one way", net: ring, a: 6, b: 1, x: []int{6, 7, 0, 1}, y: []int{6, 5, 4, 3, 2, 1}},
		{what: "rings that share a knot, in one", net: pair, a: 0, b: 1, x: []int{0, 1}, y: []int{0, 2, 1}},
		{what: "rings that share a knot, that one and another", net: pair, a: 2, b: 4, x: []int{2, 4}, y: []int{2, 3, 4}},
		{what: "rings that share a tie, its ends", net: shared, a: 1, b: 2, x: []int{1, 2}, y: []int{1, 0, 2}},
		{what: "rings that share a tie, not its ends", net: shared, a: 0, b: 3, x: []int{0, 1, 3}, y: []int{0, 2, 3}},
		{what: "rings that share a tie, one of its ends", net: shared, a: 3, b: 1, x: []int{3, 1}, y: []int{3, 2, 1}},
		{what: "greater rings that share a tie, across", net: ladder, a: 0, b: 5, x: []int{0, 1, 2, 5}, y: []int{0, 3, 4, 5}},
		{what: "greater rings that share a tie, its ends", net: ladder, a: 4, b: 1, x: []int{4, 1}, y: []int{4, 3, 0, 1}},
		{what: "all pairs tied", net: full, a: 0, b: 7, x: []int{0, 7}, y: []int{0, 1, 7}},
		{what: "all pairs tied, the first knot between", net: full, a: 3, b: 1, x: []int{3, 1}, y: []int{3, 0, 1}},
		{what: "all pairs tied but both", net: open, a: 0, b: 7, x: []int{0, 1, 7}, y: []int{0, 2, 7}},
		{what: "all pairs tied but both, turned about", net: open, a: 7, b: 0, x: []int{7, 1, 0}, y: []int{7, 2, 0}},
		{what: "the shortest has none beside it", net: shortAlone().net(), a: 0, b: 7, x: []int{0, 1, 4, 6, 7}, y: []int{0, 3, 5, 2, 7}},
		{what: "the shortest has none beside it, turned about", net: shortAlone().net(), a: 7, b: 0, x: []int{7, 2, 5, 3, 0}, y: []int{7, 6, 4, 1, 0}},
		{what: "of those as short the first has none beside it", net: netOf(6, 0, 1, 1, 2, 2, 5, 0, 3, 2, 3, 1, 4, 4, 5), a: 0, b: 5, x: []int{0, 1, 4, 5}, y: []int{0, 3, 2, 5}},
		{what: "others are shorter together", net: shortTogether().net(), a: 0, b: 7, x: []int{0, 1, 2, 7}, y: []int{0, 3, 4, 5, 6, 7}},
		{what: "the shorter one beside has greater knots", net: netOf(8, 0, 5, 5, 6, 0, 4, 3, 4, 3, 6, 0, 1, 1, 2, 2, 7, 6, 7), a: 0, b: 6, x: []int{0, 5, 6}, y: []int{0, 4, 3, 6}},
		{what: "a knot on one way cuts, but not these", net: netOf(5, 0, 1, 1, 2, 2, 3, 0, 3, 1, 4), a: 0, b: 2, x: []int{0, 1, 2}, y: []int{0, 3, 2}},
		{what: "both cut, but are of one ring", net: netOf(6, 0, 1, 1, 2, 2, 3, 0, 3, 0, 4, 2, 5), a: 2, b: 0, x: []int{2, 1, 0}, y: []int{2, 3, 0}},
	} {
		expectAsked(t, c)
	}
}

// The edges, where a knot parts both.
func TestKnotsThatPartAsWritten(t *testing.T) {
	line := netOf(8, 0, 1, 1, 2, 2, 3, 3, 4, 4, 5, 5, 6, 6, 7)
	fro := netOf(8, 0, 7, 7, 1, 1, 6, 6, 2, 2, 5, 5, 3, 3, 4)
	pair := netOf(5, 0, 1, 0, 2, 1, 2, 2, 3, 2, 4, 3, 4)
	row := netOf(8, 0, 1, 1, 5, 0, 5, 5, 6, 3, 6, 3, 5, 2, 3, 2, 4, 3, 4)
	joined := netOf(6, 0, 1, 0, 2, 1, 2, 2, 3, 3, 4, 3, 5, 4, 5)
	for _, c := range []asked{
		{what: "two ties, the first knot between", net: netOf(3, 0, 1, 0, 2), a: 1, b: 2, knot: 0, parted: true},
		{what: "two ties", net: netOf(3, 0, 1, 1, 2), a: 2, b: 0, knot: 1, parted: true},
		{what: "two ties, the last knot between", net: netOf(8, 0, 7, 1, 7), a: 0, b: 1, knot: 7, parted: true},
		{what: "rings that share a knot, in two", net: pair, a: 0, b: 4, knot: 2, parted: true},
		{what: "rings that share a knot, in two, turned about", net: pair, a: 3, b: 1, knot: 2, parted: true},
		{what: "a way of all knots: the least of six", net: line, a: 0, b: 7, knot: 1, parted: true},
		{what: "a way of all knots, turned about", net: line, a: 7, b: 0, knot: 1, parted: true},
		{what: "a piece of it: the least of three", net: line, a: 6, b: 2, knot: 3, parted: true},
		{what: "knots to and fro: not the nearest", net: fro, a: 4, b: 0, knot: 1, parted: true},
		{what: "knots to and fro: the least is neither's", net: fro, a: 2, b: 0, knot: 1, parted: true},
		{what: "knots to and fro: the end is less", net: fro, a: 1, b: 4, knot: 2, parted: true},
		{what: "rings in a row: the farther one is less", net: row, a: 0, b: 2, knot: 3, parted: true},
		{what: "rings in a row, turned about", net: row, a: 2, b: 0, knot: 3, parted: true},
		{what: "rings in a row: one knot alone", net: row, a: 6, b: 4, knot: 3, parted: true},
		{what: "over a bridge, both its ends part", net: joined, a: 0, b: 5, knot: 2, parted: true},
		{what: "to the end of a bridge", net: joined, a: 0, b: 3, knot: 2, parted: true},
		{what: "from the end of a bridge", net: joined, a: 2, b: 4, knot: 3, parted: true},
		{what: "a lesser knot cuts, but not these", net: netOf(6, 0, 1, 1, 2, 1, 3, 2, 3, 3, 4, 4, 5), a: 2, b: 4, knot: 3, parted: true},
	} {
		expectAsked(t, c)
	}
}

// Each function, of a net that is not ok.
func TestTwosOfNetsThatAreNotOk(t *testing.T) {
	for _, bad := range badTwoNets() {
		for _, a := range places() {
			for _, b := range places() {
				if x, y, ok := impl.TwoFind(bad.net, a, b); ok || len(x) != 0 || len(y) != 0 {
					t.Errorf("TwoFind %d %d, %s: %v %v %v", a, b, bad.name, x, y, ok)
				}
				if k, ok := impl.TwoCut(bad.net, a, b); ok || k != 0 {
					t.Errorf("TwoCut %d %d, %s: %d %v", a, b, bad.name, k, ok)
				}
				for _, x := range [][]int{nil, {a}, {a, b}, {a, 1, b}} {
					if impl.TwoOk(bad.net, a, b, x, []int{a, 3, b}) || impl.TwoOk(bad.net, a, b, []int{a, b}, x) || impl.TwoOk(bad.net, a, b, x, x) {
						t.Errorf("TwoOk %d %d %v, %s", a, b, x, bad.name)
					}
				}
			}
		}
	}
}

// twoSays is what is said of any two of some numbers.
type twoSays struct {
	found  bool
	knot   int
	parted bool
}

// twoAnswersOf is all that is answered of a net, its rows by turns the first and the other one.
func twoAnswersOf(n impl.Net) ([][]int, []twoSays) {
	var rows [][]int
	var says []twoSays
	for a := -1; a <= impl.NetKnots; a++ {
		for b := -1; b <= impl.NetKnots; b++ {
			x, y, found := impl.TwoFind(n, a, b)
			knot, parted := impl.TwoCut(n, a, b)
			rows = append(rows, x, y)
			says = append(says, twoSays{found, knot, parted})
		}
	}
	return rows, says
}

func expectTwosApart(t *testing.T, n impl.Net) {
	t.Helper()
	arg, whole := roomy(n)
	before := slices.Clone(whole)
	rows, says := twoAnswersOf(arg)
	want := cloneLists(rows)
	again, saysAgain := twoAnswersOf(arg)
	if !slices.Equal(whole, before) {
		t.Fatalf("%v: an argument was changed", n)
	}
	if !sameLists(again, want) || !slices.Equal(saysAgain, says) {
		t.Fatalf("%v: asked again it answers other things", n)
	}
	expectListsApart(t, "TwoFind", slices.Concat(rows, again))
	if !slices.Equal(whole, before) {
		t.Fatalf("%v: an answer shares memory with its argument", n)
	}
	// Nothing is kept: whatever was written into answers, all is as it was.
	behind, saysBehind := twoAnswersOf(arg)
	if !sameLists(behind, want) || !slices.Equal(saysBehind, says) {
		t.Fatalf("%v: asked behind that it answers other things", n)
	}
	// The net is looked at alone, not the room behind its ties.
	tight, saysTight := twoAnswersOf(impl.Net{Knots: n.Knots, Ties: slices.Clip(slices.Clone(n.Ties))})
	if !sameLists(tight, want) || !slices.Equal(saysTight, says) {
		t.Fatalf("%v: it answers other things by the room of its ties", n)
	}
}

func TestMemoryOfTwosIsApart(t *testing.T) {
	t.Parallel()
	for g := range grids() {
		expectTwosApart(t, g.net())
	}
	for _, g := range slices.Concat(shapes(), blockShapes(), twoShapes()) {
		expectTwosApart(t, g.net())
	}
	for _, bad := range badTwoNets() {
		expectTwosApart(t, bad.net)
	}
}

// Rows that are asked about are not changed, nor what lies behind their ends, and their room is not looked at.
func TestRowsThatAreAskedAboutAreNotChanged(t *testing.T) {
	rows := [][]int{nil, {0}, {0, 2}, {0, 1, 2}, {0, 3, 2}, {2, 1, 0}, {0, 1, 0, 2}, {0, 9, 2}, {0, 7, 6, 5, 4, 3, 2}, {0, 1, 2, 3, 4, 5, 6, 7, 0}}
	for _, n := range []impl.Net{fullNet(), netOf(4, 0, 1, 1, 2, 2, 3, 0, 3), netOf(8, 0, 1, 1, 2, 2, 3, 3, 4, 4, 5, 5, 6, 6, 7, 0, 7), {}, {Knots: 99}} {
		for _, x := range rows {
			for _, y := range rows {
				argX, wholeX := roomyRow(x)
				argY, wholeY := roomyRow(y)
				net, ties := roomy(n)
				beforeX, beforeY, tiesBefore := slices.Clone(wholeX), slices.Clone(wholeY), slices.Clone(ties)
				first := impl.TwoOk(net, 0, 2, argX, argY)
				if first != impl.TwoOk(net, 0, 2, argX, argY) {
					t.Errorf("%v: %v and %v are apart or not by how often it is asked", n, x, y)
				}
				if first != impl.TwoOk(n, 0, 2, slices.Clip(slices.Clone(x)), slices.Clip(slices.Clone(y))) {
					t.Errorf("%v: %v and %v are apart or not by their room", n, x, y)
				}
				if !slices.Equal(wholeX, beforeX) || !slices.Equal(wholeY, beforeY) || !slices.Equal(ties, tiesBefore) {
					t.Errorf("%v: asked about %v and %v, an argument was changed", n, x, y)
				}
			}
		}
	}
}

// Both rows may lie in one list: what they share does not count, only their knots.
func TestRowsThatShareMemoryMayBeApart(t *testing.T) {
	whole := []int{0, 1, 2, 0, 3, 2}
	n := netOf(4, 0, 1, 1, 2, 2, 3, 0, 3)
	if !impl.TwoOk(n, 0, 2, whole[:3], whole[3:]) || impl.TwoOk(n, 0, 2, whole[:3], whole[:3]) {
		t.Error("TwoOk of rows of one list")
	}
	if !slices.Equal(whole, []int{0, 1, 2, 0, 3, 2}) {
		t.Error("TwoOk changed its rows")
	}
}
