package tests

import (
	"math"
	"slices"
	"testing"

	"loop.example/osier/impl"
)

// P80: by the document's words, and by what the program itself says.
func TestSidesThatAreToldAreSuch(t *testing.T) {
	t.Parallel()
	for g := range sideGrids() {
		n := g.net()
		sides, ok := impl.SideOf(n)
		if !ok {
			if len(sides) > 0 {
				t.Fatalf("SideOf %v: %v and false", n, sides)
			}
			continue
		}
		if !g.areSides(sides) || !impl.SideOk(n, sides) {
			t.Fatalf("SideOf %v: %v, which are none, or SideOk says so", n, sides)
		}
		for k, least := range impl.WayParts(n) {
			if k == least && sides[k] != 0 {
				t.Fatalf("SideOf %v: %v, though %d is the least of its part", n, sides, k)
			}
		}
	}
}

// P81: each with its witness; and two sides there are just if some row of 0 and 1 is such.
func TestTwoSidesOrAnOddRing(t *testing.T) {
	t.Parallel()
	two, odd := 0, 0
	for g := range sideGrids() {
		n := g.net()
		sides, hasSides := impl.SideOf(n)
		ring, isOdd := impl.SideOdd(n)
		if hasSides == isOdd || hasSides != impl.SideOk(n, sides) || isOdd != g.isOddRing(ring) {
			t.Fatalf("%v: the sides %v %v, the odd ring %v %v", n, sides, hasSides, ring, isOdd)
		}
		if _, want := g.sides(); hasSides != want {
			t.Fatalf("SideOf %v: %v %v, by the document's words %v", n, sides, hasSides, want)
		}
		if hasSides {
			two++
		} else {
			odd++
		}
	}
	if two < 1000 || odd < 1000 {
		t.Fatalf("the test is wrong: %d of two sides, %d of an odd ring", two, odd)
	}
}

// P82: by the document's words, and by what the program itself says of trees, ways and ties.
func TestAnOddRingThatIsToldIsOne(t *testing.T) {
	t.Parallel()
	for g := range sideGrids() {
		n := g.net()
		ring, ok := impl.SideOdd(n)
		if !ok {
			if len(ring) > 0 {
				t.Fatalf("SideOdd %v: %v and false", n, ring)
			}
			continue
		}
		if !g.isOddRing(ring) || !impl.WayOk(n, ring) || !impl.NetHas(n, ring[0], ring[len(ring)-1]) {
			t.Fatalf("SideOdd %v: %v, which is no ring, or no odd one", n, ring)
		}
		// It is the first odd one of those that the tree's other ties close.
		rings := impl.TreeRings(n)
		isOdd := func(row []int) bool { return len(row)%2 == 1 }
		if first := slices.IndexFunc(rings, isOdd); first < 0 || !slices.Equal(ring, rings[first]) {
			t.Fatalf("SideOdd %v: %v, of the rings %v", n, ring, rings)
		}
		tree := impl.Net{Knots: n.Knots, Ties: impl.TreeOf(n)}
		if !impl.WayOk(tree, ring) || ring[0] < ring[len(ring)-1] {
			t.Fatalf("SideOdd %v: %v is not by the ties %v from a B to an A", n, ring, tree.Ties)
		}
	}
}

// P83.
func TestSidesTurnedAboutAreSides(t *testing.T) {
	t.Parallel()
	for g := range sideGrids() {
		n := g.net()
		for sides := range allSides(g.knots) {
			about := allFlipped(sides)
			if impl.SideOk(n, sides) != impl.SideOk(n, about) {
				t.Fatalf("SideOk %v: of %v and %v but one", n, sides, about)
			}
			if !impl.SideOk(n, sides) {
				continue
			}
			if ring, ok := impl.SideOdd(n); ok {
				t.Fatalf("%v has the sides %v, and the odd ring %v", n, sides, ring)
			}
		}
	}
}

// P84: all rows of 0 and 1 of each net, turned about part by part.
func TestNoSidesButThoseThatAreTold(t *testing.T) {
	t.Parallel()
	several := 0
	for g := range sideGrids() {
		n := g.net()
		told, ok := impl.SideOf(n)
		parts := impl.WayParts(n)
		count := 0
		for sides := range allSides(g.knots) {
			// Turned about in each part whose least knot is of side 1, they are those that are told, or none.
			isAbout := func(k int) bool { return sides[parts[k]] == 1 }
			want := ok && slices.Equal(flipped(sides, isAbout), told)
			if impl.SideOk(n, sides) != want || g.areSides(sides) != want {
				t.Fatalf("SideOk %v %v: %v, by the document's words %v, though %v are told", n, sides, !want, g.areSides(sides), told)
			}
			if want {
				count++
			}
		}
		if ok && count != 1<<impl.WayCount(n) {
			t.Fatalf("%v has %d sides, of %d parts", n, count, impl.WayCount(n))
		}
		if ok && impl.WayCount(n) > 1 && len(n.Ties) > 1 {
			several++
		}
	}
	if several < 100 {
		t.Fatalf("the test is wrong: but %d nets of several parts", several)
	}
}

// P85: and what were sides are.
func TestWithATieLessThereAreTwoSidesStill(t *testing.T) {
	t.Parallel()
	for g := range sideGrids() {
		n := g.net()
		sides, ok := impl.SideOf(n)
		if !ok {
			continue
		}
		for _, tie := range n.Ties {
			less, _ := impl.NetCut(n, tie.A, tie.B)
			fewer, okFewer := impl.SideOf(less)
			if !okFewer || !impl.SideOk(less, fewer) || !impl.SideOk(less, sides) || !impl.SideOk(less, allFlipped(sides)) {
				t.Fatalf("%v has the sides %v, and without %v %v %v", n, sides, tie, fewer, okFewer)
			}
			if ring, isOdd := impl.SideOdd(less); isOdd {
				t.Fatalf("%v has the sides %v, and without %v the odd ring %v", n, sides, tie, ring)
			}
			// Where the tie was no bridge the parts are the same, so that the sides are.
			if !impl.BridgeIs(n, tie.A, tie.B) && !slices.Equal(fewer, sides) {
				t.Fatalf("%v has the sides %v, and without %v, which is no bridge, %v", n, sides, tie, fewer)
			}
		}
	}
}

// P86: of all trees of small nets, and many of others; the tree that the program tells among them.
func TestATreeHasTwoSides(t *testing.T) {
	t.Parallel()
	r := numbers(86)
	for g := range sideGrids() {
		n := g.net()
		told, isTold := impl.SideOf(n)
		for _, ties := range append(g.treesOf(&r), impl.TreeOf(n)) {
			tree := impl.Net{Knots: n.Knots, Ties: ties}
			sides, ok := impl.SideOf(tree)
			ring, isOdd := impl.SideOdd(tree)
			if !ok || !impl.SideOk(tree, sides) || !g.by(ties).areSides(sides) || isOdd || len(ring) > 0 {
				t.Fatalf("the tree %v has the sides %v %v, and the odd ring %v %v", tree, sides, ok, ring, isOdd)
			}
			// If the net has two sides, each of its trees has the same.
			if isTold && !slices.Equal(sides, told) {
				t.Fatalf("the tree %v of %v has the sides %v, not %v", tree, n, sides, told)
			}
		}
	}
}

// P87: of the way that is found, and, where they are few, of all.
func TestTheWayIsEvenJustIfBothAreOfOneSide(t *testing.T) {
	t.Parallel()
	for g := range sideGrids() {
		n := g.net()
		sides, ok := impl.SideOf(n)
		if !ok {
			continue
		}
		for a := range g.knots {
			for b := range g.knots {
				way, found := impl.WayFind(n, a, b)
				if found && (len(way)%2 == 1) != (sides[a] == sides[b]) {
					t.Fatalf("SideOf %v: %v, though the way is %v", n, sides, way)
				}
				if !g.fewWays() {
					continue
				}
				for _, other := range impl.WayAll(n, a, b) {
					if len(other)%2 != len(way)%2 {
						t.Fatalf("%v has the sides %v, and the ways %v and %v", n, sides, way, other)
					}
				}
			}
		}
	}
}

// P82, P87: between the ends of an odd ring two ways lead of which one has an even number of ties, and the other has not: no sides could be so.
func TestBetweenTheEndsOfAnOddRingWaysAreEvenAndNot(t *testing.T) {
	t.Parallel()
	for g := range sideGrids() {
		n := g.net()
		ring, ok := impl.SideOdd(n)
		if !ok {
			continue
		}
		// The tie of the ring's ends is one way, and the ring the other one.
		a, b := ring[0], ring[len(ring)-1]
		tie, _ := impl.WayFind(n, a, b)
		if len(tie) != 2 || len(ring)%2 == 0 || !slices.ContainsFunc(impl.WayAll(n, a, b), func(way []int) bool { return slices.Equal(way, ring) }) {
			t.Fatalf("SideOdd %v: %v, though the way by a tie is %v", n, ring, tie)
		}
	}
}

// P80 to P82: all nets of at most six knots, by all rows of 0 and 1, and by the tree's ways.
func TestSidesOfAllSmallNets(t *testing.T) {
	t.Parallel()
	for g := range allGrids(6) {
		expectSides(t, g)
	}
}

// P80 to P82: greater ones.
func TestSidesOfGreaterNets(t *testing.T) {
	t.Parallel()
	for g := range sideGrids() {
		expectSides(t, g)
	}
	for _, g := range slices.Concat(allShapes(), earShapes()) {
		expectSides(t, g)
	}
}

func expectSides(t *testing.T, g grid) {
	t.Helper()
	wantSides, hasSides := g.sides()
	wantRing, isOdd := g.oddRing()
	if hasSides == isOdd {
		t.Fatalf("the test is wrong: %v: %v %v", g.net(), wantSides, wantRing)
	}
	if sides, ok := impl.SideOf(g.net()); ok != hasSides || !slices.Equal(sides, wantSides) {
		t.Fatalf("SideOf %v: %v %v, not %v", g.net(), sides, ok, wantSides)
	}
	if ring, ok := impl.SideOdd(g.net()); ok != isOdd || !slices.Equal(ring, wantRing) {
		t.Fatalf("SideOdd %v: %v %v, not %v", g.net(), ring, ok, wantRing)
	}
}

// The edges of SideOf and SideOdd, each with what is answered written out: sides, or an odd ring.
func TestSidesAsWritten(t *testing.T) {
	for _, c := range []struct {
		what  string
		net   impl.Net
		sides []int
		ring  []int
	}{
		{"no knots", impl.Net{}, nil, nil},
		{"no knots, an empty list", impl.Net{Ties: []impl.Tie{}}, nil, nil},
		{"one knot", impl.Net{Knots: 1}, []int{0}, nil},
		{"two knots, not tied", impl.Net{Knots: 2}, []int{0, 0}, nil},
		{"two knots, tied", netOf(2, 0, 1), []int{0, 1}, nil},
		{"three knots, not tied", impl.Net{Knots: 3}, []int{0, 0, 0}, nil},
		{"three knots, two tied", netOf(3, 1, 2), []int{0, 0, 1}, nil},
		{"three knots in a row", netOf(3, 0, 1, 1, 2), []int{0, 1, 0}, nil},
		{"three knots in a row, from the midst", netOf(3, 0, 1, 0, 2), []int{0, 1, 1}, nil},
		{"three knots in a row, the least between", netOf(3, 0, 2, 1, 2), []int{0, 0, 1}, nil},
		{"three knots in a ring", netOf(3, 0, 1, 1, 2, 0, 2), nil, []int{2, 0, 1}},
		{"a ring of four", netOf(4, 0, 1, 1, 2, 2, 3, 0, 3), []int{0, 1, 0, 1}, nil},
		{"a ring of four, otherwise", netOf(4, 0, 1, 1, 3, 2, 3, 0, 2), []int{0, 1, 1, 0}, nil},
		{"a ring of four with a tie across", netOf(4, 0, 1, 1, 2, 2, 3, 0, 3, 1, 3), nil, []int{3, 0, 1}},
		{"a ring of four with the other tie across", netOf(4, 0, 1, 1, 2, 2, 3, 0, 3, 0, 2), nil, []int{2, 0, 1}},
		{"a ring of five", netOf(5, 0, 1, 1, 2, 2, 3, 3, 4, 0, 4), nil, []int{4, 0, 1, 2, 3}},
		{"a ring of five, otherwise", netOf(5, 0, 2, 2, 4, 1, 4, 1, 3, 0, 3), nil, []int{4, 1, 3, 0, 2}},
		{"a ring of six", netOf(6, 0, 1, 1, 2, 2, 3, 3, 4, 4, 5, 0, 5), []int{0, 1, 0, 1, 0, 1}, nil},
		{"a ring of seven", netOf(7, 0, 1, 1, 2, 2, 3, 3, 4, 4, 5, 5, 6, 0, 6), nil, []int{6, 0, 1, 2, 3, 4, 5}},
		{"a ring of all", netOf(8, 0, 1, 1, 2, 2, 3, 3, 4, 4, 5, 5, 6, 6, 7, 0, 7), []int{0, 1, 0, 1, 0, 1, 0, 1}, nil},
		{"a row of all, to and fro", netOf(8, 0, 7, 1, 7, 1, 6, 2, 6, 2, 5, 3, 5, 3, 4), []int{0, 0, 0, 0, 1, 1, 1, 1}, nil},
		{"an odd ring that the least knot is not on", netOf(5, 0, 4, 1, 4, 1, 2, 2, 4, 3, 4), nil, []int{4, 1, 2}},
		{"an odd ring at the end of a row", netOf(6, 0, 1, 1, 2, 2, 3, 3, 4, 4, 5, 3, 5), nil, []int{5, 3, 4}},
		{"an odd ring of five at the end of a row", netOf(7, 0, 6, 6, 1, 1, 2, 2, 3, 3, 5, 5, 6), nil, []int{6, 1, 2, 3, 5}},
		{"an even ring at the end of a row", netOf(6, 0, 1, 1, 2, 2, 3, 3, 4, 4, 5, 2, 5), []int{0, 1, 0, 1, 0, 1}, nil},
		{"two parts, each with two sides", netOf(6, 0, 1, 1, 2, 2, 3, 0, 3, 4, 5), []int{0, 1, 0, 1, 0, 1}, nil},
		{"two parts, one between the other", netOf(6, 0, 5, 1, 5, 2, 4, 3, 4), []int{0, 0, 0, 0, 1, 1}, nil},
		{"three parts, each with two sides", netOf(8, 0, 3, 3, 6, 1, 4, 4, 7, 2, 5), []int{0, 0, 0, 1, 1, 1, 0, 0}, nil},
		{"four parts of a tie each", netOf(8, 0, 7, 1, 6, 2, 5, 3, 4), []int{0, 0, 0, 0, 1, 1, 1, 1}, nil},
		{"only a later part has an odd ring", netOf(7, 0, 1, 1, 2, 2, 3, 0, 3, 4, 5, 5, 6, 4, 6), nil, []int{6, 4, 5}},
		{"only the last part has an odd ring", netOf(7, 0, 3, 1, 2, 4, 5, 5, 6, 4, 6), nil, []int{6, 4, 5}},
		{"only a later part has an odd ring, behind a knot alone", netOf(4, 1, 2, 2, 3, 1, 3), nil, []int{3, 1, 2}},
		{"only the first part has an odd ring", netOf(7, 0, 1, 1, 2, 0, 2, 3, 4, 4, 5, 5, 6, 3, 6), nil, []int{2, 0, 1}},
		{"two parts, each with an odd ring", netOf(6, 0, 1, 1, 2, 0, 2, 3, 4, 4, 5, 3, 5), nil, []int{2, 0, 1}},
		{"two parts, the odd ring of the later one with the first such tie", laterRingWithEarlierTie().net(), nil, []int{3, 1, 2}},
		{"two parts have an odd ring, the first of three has none", netOf(8, 0, 7, 1, 2, 2, 3, 1, 3, 4, 5, 5, 6, 4, 6), nil, []int{3, 1, 2}},
		{"the least knot is not tied to the one behind it", netOf(4, 0, 2, 2, 1, 1, 3), []int{0, 0, 1, 1}, nil},
		{"the least knot is not tied to the one behind it, a ring", netOf(4, 0, 2, 2, 1, 1, 3, 0, 3), []int{0, 0, 1, 1}, nil},
		{"the least knot is tied to the last alone", netOf(5, 0, 4, 3, 4, 1, 3, 1, 2), []int{0, 1, 0, 0, 1}, nil},
		{"the least knot of a later part is tied to the last alone", netOf(6, 1, 5, 2, 5, 2, 3, 0, 4), []int{0, 0, 0, 1, 1, 1}, nil},
		{"a knot whose lesser ones are all far from it", netOf(6, 0, 5, 3, 5, 2, 3, 1, 2, 1, 4), []int{0, 0, 1, 0, 1, 1}, nil},
		{"knots alone among parts", netOf(8, 1, 3, 3, 4, 6, 7), []int{0, 0, 0, 1, 0, 0, 0, 1}, nil},
		{"knots alone among parts, and an odd ring", netOf(8, 1, 2, 4, 5, 5, 7, 4, 7), nil, []int{7, 4, 5}},
		{"all alone", impl.Net{Knots: impl.NetKnots}, make([]int, impl.NetKnots), nil},
		{"the last tie alone", netOf(8, 6, 7), []int{0, 0, 0, 0, 0, 0, 0, 1}, nil},
		{"two odd rings that share a knot", netOf(5, 0, 1, 1, 2, 0, 2, 2, 3, 3, 4, 2, 4), nil, []int{2, 0, 1}},
		{"two odd rings, the one of five with the first such tie", netOf(7, 0, 1, 0, 3, 1, 2, 3, 4, 2, 4, 2, 5, 5, 6, 2, 6), nil, []int{4, 2, 1, 0, 3}},
		{"two odd rings, the one without the least knot with the first such tie", laterRingWithEarlierTie().set(3, 4, true).net(), nil, []int{3, 1, 2}},
		{"two odd rings that share a tie", netOf(4, 0, 1, 0, 2, 1, 2, 1, 3, 2, 3), nil, []int{2, 0, 1}},
		{"an even ring closed ahead of an odd one", netOf(5, 0, 1, 0, 3, 1, 2, 2, 3, 2, 4, 3, 4), nil, []int{4, 2, 1, 0, 3}},
		{"a tree", netOf(7, 0, 1, 0, 2, 1, 3, 1, 4, 2, 5, 2, 6), []int{0, 1, 1, 0, 0, 0, 0}, nil},
		{"a star, the least in its midst", sidesFilled(1).net(), []int{0, 1, 1, 1, 1, 1, 1, 1}, nil},
		{"a star, the last in its midst", sidesFilled(7).net(), []int{0, 0, 0, 0, 0, 0, 0, 1}, nil},
		{"even rings that share a tie", netOf(6, 0, 1, 1, 2, 2, 3, 0, 3, 2, 4, 4, 5, 3, 5), []int{0, 1, 0, 1, 1, 0}, nil},
		{"even rings that share a knot", netOf(7, 0, 1, 1, 2, 2, 3, 0, 3, 3, 4, 4, 5, 5, 6, 3, 6), []int{0, 1, 0, 1, 0, 1, 0}, nil},
		{"an odd ring and an even one that share a tie", netOf(6, 0, 1, 1, 2, 0, 2, 1, 3, 3, 4, 2, 4, 4, 5), nil, []int{2, 0, 1}},
		{"a cube", netOf(8, 0, 1, 1, 2, 2, 3, 0, 3, 4, 5, 5, 6, 6, 7, 4, 7, 0, 4, 1, 5, 2, 6, 3, 7), []int{0, 1, 0, 1, 1, 0, 1, 0}, nil},
		{"all pairs between two sides", sidesFilled(4).net(), []int{0, 0, 0, 0, 1, 1, 1, 1}, nil},
		{"all pairs between two sides, and one within the first", sidesFilled(4).set(2, 3, true).net(), nil, []int{4, 2, 3}},
		{"all pairs between two sides, and one within the other", sidesFilled(4).set(6, 7, true).net(), nil, []int{7, 0, 6}},
		{"all pairs of four", gridOf(4, math.MaxUint64).net(), nil, []int{2, 0, 1}},
		{"all pairs", fullNet(), nil, []int{2, 0, 1}},
	} {
		if !impl.NetOk(c.net) {
			t.Fatalf("the test is wrong: %s", c.what)
		}
		hasSides := c.ring == nil
		if sides, ok := impl.SideOf(c.net); ok != hasSides || !slices.Equal(sides, c.sides) {
			t.Errorf("%s: SideOf: %v %v, not %v", c.what, sides, ok, c.sides)
		}
		if ring, ok := impl.SideOdd(c.net); ok == hasSides || !slices.Equal(ring, c.ring) {
			t.Errorf("%s: SideOdd: %v %v, not %v", c.what, ring, ok, c.ring)
		}
		if hasSides && !impl.SideOk(c.net, c.sides) {
			t.Errorf("%s: SideOk %v: false", c.what, c.sides)
		}
	}
}

// Numbers that are sides, or are not, each for one reason.
func TestNumbersThatAreSidesOrNot(t *testing.T) {
	// A ring of four, and a tie; a row of three, a knot alone, and a row of three.
	n := netOf(6, 0, 1, 1, 2, 2, 3, 0, 3, 4, 5)
	rows := netOf(7, 0, 1, 1, 2, 4, 5, 5, 6)
	ring := netOf(3, 0, 1, 1, 2, 0, 2)
	all := impl.Net{Knots: impl.NetKnots}
	for _, c := range []struct {
		what  string
		net   impl.Net
		sides []int
		want  bool
	}{
		{"those that are told", n, []int{0, 1, 0, 1, 0, 1}, true},
		{"turned about", n, []int{1, 0, 1, 0, 1, 0}, true},
		{"turned about in the first part alone", n, []int{1, 0, 1, 0, 0, 1}, true},
		{"turned about in the later part alone", n, []int{0, 1, 0, 1, 1, 0}, true},
		{"turned about at a knot alone", rows, []int{0, 1, 0, 1, 0, 1, 0}, true},
		{"not turned about at a knot alone", rows, []int{0, 1, 0, 0, 0, 1, 0}, true},
		{"turned about behind a knot alone", rows, []int{0, 1, 0, 0, 1, 0, 1}, true},
		{"turned about at half a part", rows, []int{0, 1, 0, 0, 0, 1, 1}, false},
		{"no sides at all", n, nil, false},
		{"no sides at all, not nil", n, []int{}, false},
		{"no sides, of no knots", impl.Net{}, nil, true},
		{"no sides, not nil, of no knots", impl.Net{}, []int{}, true},
		{"one side, of no knots", impl.Net{}, []int{0}, false},
		{"no sides, of one knot", impl.Net{Knots: 1}, nil, false},
		{"one knot of side 0", impl.Net{Knots: 1}, []int{0}, true},
		{"one knot of side 1", impl.Net{Knots: 1}, []int{1}, true},
		{"one knot of side 2", impl.Net{Knots: 1}, []int{2}, false},
		{"one knot of side -1", impl.Net{Knots: 1}, []int{-1}, false},
		{"one knot of two sides", impl.Net{Knots: 1}, []int{0, 1}, false},
		{"two knots, not tied, of one side", impl.Net{Knots: 2}, []int{1, 1}, true},
		{"two knots, not tied, of two", impl.Net{Knots: 2}, []int{1, 0}, true},
		{"two knots, tied, of one side", netOf(2, 0, 1), []int{0, 0}, false},
		{"two knots, tied, of the other one side", netOf(2, 0, 1), []int{1, 1}, false},
		{"two knots, tied, of two", netOf(2, 0, 1), []int{0, 1}, true},
		{"two knots, tied, of two, turned about", netOf(2, 0, 1), []int{1, 0}, true},
		{"one too few", n, []int{0, 1, 0, 1, 0}, false},
		{"one too few, of a knot alone", netOf(4, 0, 1, 1, 2), []int{0, 1, 0}, false},
		{"one too few, of knots without ties", impl.Net{Knots: 3}, []int{0, 0}, false},
		{"one too many", n, []int{0, 1, 0, 1, 0, 1, 0}, false},
		{"one too many, of the greatest", all, make([]int, impl.NetKnots+1), false},
		{"as many, of the greatest", all, make([]int, impl.NetKnots), true},
		{"far too many", all, make([]int, 5000), false},
		{"neither 0 nor 1, at an end", n, []int{0, 1, 0, 1, 0, 2}, false},
		{"neither 0 nor 1, at the first", n, []int{2, 1, 0, 1, 0, 1}, false},
		{"neither 0 nor 1, in the midst", n, []int{0, 1, 3, 1, 0, 1}, false},
		{"neither 0 nor 1, at a knot alone", rows, []int{0, 1, 0, 2, 0, 1, 0}, false},
		{"neither 0 nor 1, of knots without ties", all, []int{0, 0, 0, 2, 0, 0, 0, 0}, false},
		{"three sides, of a ring of three", ring, []int{0, 1, 2}, false},
		{"two other sides", n, []int{2, 3, 2, 3, 2, 3}, false},
		{"1 and 2", n, []int{1, 2, 1, 2, 1, 2}, false},
		{"below 0", n, []int{0, -1, 0, -1, 0, -1}, false},
		{"below 0, one", n, []int{0, 1, -2, 1, 0, 1}, false},
		{"below 0, at a knot alone", rows, []int{0, 1, 0, -1, 0, 1, 0}, false},
		{"past 1", n, []int{0, 1, 0, 1, 0, 5}, false},
		{"far off", n, []int{0, 1, 0, 1, math.MinInt, math.MaxInt}, false},
		{"past 1 by a power of two", n, []int{0, 1, 0, 1, 1 << 32, 1}, false},
		{"past 1 by a power of two and one", n, []int{0, 1, 0, 1, 0, 1<<32 + 1}, false},
		{"a tie between two of one side", n, []int{0, 0, 0, 1, 0, 1}, false},
		{"a tie between two of one side, the first", n, []int{1, 1, 0, 1, 0, 1}, false},
		{"a tie between two of one side, the last", n, []int{0, 1, 0, 1, 1, 1}, false},
		{"a tie between two of one side, that of the ring's ends", n, []int{0, 1, 0, 0, 0, 1}, false},
		{"all of side 0", n, make([]int, 6), false},
		{"all of side 1", n, []int{1, 1, 1, 1, 1, 1}, false},
		{"of a ring of three", ring, []int{0, 1, 0}, false},
		{"of a ring of three, told by its tree", ring, []int{0, 1, 1}, false},
		{"of a ring of five", netOf(5, 0, 1, 1, 2, 2, 3, 3, 4, 0, 4), []int{0, 1, 0, 1, 0}, false},
		{"of all pairs", fullNet(), []int{0, 1, 0, 1, 0, 1, 0, 1}, false},
	} {
		if !impl.NetOk(c.net) {
			t.Fatalf("the test is wrong: %s", c.what)
		}
		if impl.SideOk(c.net, c.sides) != c.want {
			t.Errorf("%s: SideOk %v %v: %v", c.what, c.net, c.sides, !c.want)
		}
	}
}

// SideOk of all short rows of numbers, those that are no sides among them, by the document's words.
func TestSideOkOfAllShortRows(t *testing.T) {
	t.Parallel()
	rows := rowsOfNumbers([]int{-1, 0, 1, 2}, 5)
	for g := range allGrids(4) {
		n := g.net()
		for _, row := range rows {
			if want := g.areSides(row); impl.SideOk(n, row) != want {
				t.Fatalf("SideOk %v %v: %v", n, row, !want)
			}
		}
	}
}

// SideOk of sides with one number changed, left out, or put in.
func TestSideOkOfRowsNearSides(t *testing.T) {
	t.Parallel()
	for _, g := range slices.Concat(sideShapes(), allShapes(), earShapes()) {
		n := g.net()
		sides, ok := g.sides()
		if !ok {
			continue
		}
		for _, row := range append(rowsNear(sides), rowsNear(allFlipped(sides))...) {
			if want := g.areSides(row); impl.SideOk(n, row) != want {
				t.Fatalf("SideOk %v %v: %v", n, row, !want)
			}
		}
		for at := range sides {
			for _, side := range places() {
				row := slices.Clone(sides)
				row[at] = side
				if want := g.areSides(row); impl.SideOk(n, row) != want {
					t.Fatalf("SideOk %v %v: %v", n, row, !want)
				}
			}
		}
	}
}

// Of nets that are not ok, with what would be sides of many of them if the fault were passed over.
func TestSidesOfNetsThatAreNotOk(t *testing.T) {
	for _, bad := range badSideNets() {
		if impl.NetOk(bad.net) {
			t.Fatalf("the test is wrong: %s", bad.name)
		}
		if sides, ok := impl.SideOf(bad.net); ok || len(sides) > 0 {
			t.Errorf("SideOf, %s: %v %v", bad.name, sides, ok)
		}
		if ring, ok := impl.SideOdd(bad.net); ok || len(ring) > 0 {
			t.Errorf("SideOdd, %s: %v %v", bad.name, ring, ok)
		}
		if impl.SideOk(bad.net, nil) {
			t.Errorf("SideOk, %s: no sides", bad.name)
		}
		for knots := range impl.NetKnots + 3 {
			for sides := range allSides(knots) {
				if impl.SideOk(bad.net, sides) {
					t.Errorf("SideOk, %s: %v", bad.name, sides)
				}
			}
		}
	}
}

func expectSidesApart(t *testing.T, n impl.Net) {
	t.Helper()
	arg, whole := roomy(n)
	before := slices.Clone(whole)
	sides, hasSides := impl.SideOf(arg)
	ring, isOdd := impl.SideOdd(arg)
	wantSides, wantRing := slices.Clone(sides), slices.Clone(ring)
	expectSame := func(what string, n impl.Net) [][]int {
		t.Helper()
		sidesAgain, hasSidesAgain := impl.SideOf(n)
		ringAgain, isOddAgain := impl.SideOdd(n)
		if hasSidesAgain != hasSides || isOddAgain != isOdd || !slices.Equal(sidesAgain, wantSides) || !slices.Equal(ringAgain, wantRing) {
			t.Fatalf("%v: asked %s it answers %v and %v, not %v and %v", n, what, sidesAgain, ringAgain, wantSides, wantRing)
		}
		return [][]int{sidesAgain, ringAgain}
	}
	again := expectSame("again", arg)
	if !slices.Equal(whole, before) {
		t.Fatalf("%v: an argument was changed", n)
	}
	expectListsApart(t, "sides and odd rings", append(again, sides, ring))
	if !slices.Equal(whole, before) {
		t.Fatalf("%v: an answer shares memory with its argument", n)
	}
	// Nothing is kept: whatever was written into answers, all is as it was.
	expectSame("behind that", arg)
	// The net is looked at alone, not the room behind its ties.
	expectSame("by the room of its ties", impl.Net{Knots: n.Knots, Ties: slices.Clip(slices.Clone(n.Ties))})
}

func TestMemoryOfSidesIsApart(t *testing.T) {
	t.Parallel()
	for g := range sideGrids() {
		expectSidesApart(t, g.net())
	}
	for _, bad := range badSideNets() {
		expectSidesApart(t, bad.net)
	}
}

// Sides that are asked about are not changed, nor what lies behind their end, and their room is not looked at.
func TestSidesThatAreAskedAboutAreNotChanged(t *testing.T) {
	rows := [][]int{nil, {0}, {1}, {0, 1}, {1, 0}, {0, 0}, {0, 1, 0}, {0, 1, 1}, {0, 1, 2}, {1, 0, 1, 0}, {0, 1, 0, 1}, {0, 1, 0, -1}, {0, 0, 1, 1}, {0, 1, 0, 1, 0, 1, 0, 1}, {0, 1, 0, 1, 0, 1, 0, 1, 0}}
	for _, n := range []impl.Net{fullNet(), netOf(2, 0, 1), netOf(3, 0, 1, 1, 2), netOf(4, 0, 1, 1, 2, 2, 3, 0, 3), netOf(8, 0, 1, 2, 3, 6, 7), {}, {Knots: 1}, {Knots: 3}, {Knots: 8}, {Knots: 99}, {Knots: -1}} {
		for _, row := range rows {
			arg, whole := roomyRow(row)
			net, ties := roomy(n)
			before, tiesBefore := slices.Clone(whole), slices.Clone(ties)
			first := impl.SideOk(net, arg)
			if first != impl.SideOk(net, arg) {
				t.Errorf("%v: %v are sides or not by how often it is asked", n, row)
			}
			if first != impl.SideOk(n, slices.Clip(slices.Clone(row))) {
				t.Errorf("%v: %v are sides or not by their room", n, row)
			}
			if !slices.Equal(whole, before) || !slices.Equal(ties, tiesBefore) {
				t.Errorf("%v: asked about %v, an argument was changed", n, row)
			}
		}
	}
	// What lies behind the end of too few, in their room, would be the rest.
	whole := []int{0, 1, 0, 1}
	if impl.SideOk(netOf(4, 0, 1, 1, 2, 2, 3), whole[:3]) || impl.SideOk(netOf(4, 0, 1, 1, 2, 2, 3), whole[:0]) {
		t.Error("SideOk looks behind the end of the sides")
	}
}

// What is asked in between changes nothing: nothing is kept between two calls.
func TestSidesAreThoseOfTheNetThatIsAsked(t *testing.T) {
	t.Parallel()
	shapes := slices.Concat(sideShapes(), earShapes())
	for _, g := range shapes {
		for _, other := range shapes {
			impl.SideOf(other.net())
			impl.SideOdd(other.net())
			impl.SideOk(other.net(), make([]int, other.knots))
			expectSides(t, g)
		}
	}
}
