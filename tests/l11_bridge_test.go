package tests

import (
	"math"
	"slices"
	"testing"

	"loop.example/osier/impl"
)

// P29.
func TestATreeHasTheNetsParts(t *testing.T) {
	t.Parallel()
	r := numbers(7)
	for g := range bridgeGrids() {
		n := g.net()
		for _, list := range append(g.treesOf(&r), impl.TreeOf(n)) {
			tree := impl.Net{Knots: n.Knots, Ties: list}
			if !impl.TreeOk(n, list) || !slices.Equal(impl.WayParts(tree), impl.WayParts(n)) {
				t.Fatalf("%v: %v has not its parts", n, list)
			}
			for i, tie := range list {
				if !impl.BridgeIs(tree, tie.A, tie.B) || !impl.BridgeIs(tree, tie.B, tie.A) {
					t.Fatalf("the tree %v: %v is no bridge", tree, tie)
				}
				if impl.TreeOk(n, without(list, i)) {
					t.Fatalf("%v: %v is a tree without %v", n, list, tie)
				}
			}
		}
	}
}

// P30.
func TestATreesTreeIsThatTree(t *testing.T) {
	t.Parallel()
	r := numbers(8)
	for g := range bridgeGrids() {
		for _, list := range append(g.treesOf(&r), impl.TreeOf(g.net())) {
			tree := impl.Net{Knots: g.knots, Ties: list}
			if got := impl.TreeOf(tree); !slices.Equal(got, list) {
				t.Fatalf("TreeOf the tree %v: %v", tree, got)
			}
			if got := impl.BridgeList(tree); !slices.Equal(got, list) {
				t.Fatalf("BridgeList of the tree %v: %v", tree, got)
			}
			if got := impl.TreeRings(tree); len(got) != 0 {
				t.Fatalf("TreeRings of the tree %v: %v", tree, got)
			}
			if got := impl.BridgeParts(tree); !slices.Equal(got, knotsOf(g.knots)) {
				t.Fatalf("BridgeParts of the tree %v: %v", tree, got)
			}
		}
	}
}

// P31: by what the program itself says of all ways.
func TestABridgeIsTheOnlyWayOver(t *testing.T) {
	t.Parallel()
	for g := range bridgeGrids() {
		n := g.net()
		for a := range g.knots {
			for b := range g.knots {
				only := impl.NetHas(n, a, b) && len(impl.WayAll(n, a, b)) == 1
				if impl.BridgeIs(n, a, b) != only {
					t.Fatalf("BridgeIs %v %d %d: %v", n, a, b, !only)
				}
			}
		}
	}
}

// P31: by ways that are taken from all rows of knots, and by numbers that are no knots.
func TestBridgeIsOfAnyTwo(t *testing.T) {
	t.Parallel()
	rows := newRowTable()
	for g := range grids() {
		n, ways := g.net(), g.ways(rows)
		for _, a := range places() {
			for _, b := range places() {
				want := g.has(a, b) && len(ways[a][b]) == 1
				if impl.BridgeIs(n, a, b) != want {
					t.Fatalf("BridgeIs %v %d %d: %v", n, a, b, !want)
				}
			}
		}
	}
}

// P32: all nets of at most six knots too.
func TestBridgeListTellsJustTheBridges(t *testing.T) {
	t.Parallel()
	check := func(g grid) {
		n, want := g.net(), g.bridges()
		if got := impl.BridgeList(n); !slices.Equal(got, want) {
			t.Fatalf("BridgeList %v: %v, not %v", n, got, want)
		}
	}
	for g := range allGrids(6) {
		check(g)
	}
	for g := range bridgeGrids() {
		check(g)
	}
}

// P32: BridgeList is what BridgeIs says of each pair, in order.
func TestBridgeListIsAsBridgeIs(t *testing.T) {
	for g := range bridgeGrids() {
		n := g.net()
		var want []impl.Tie
		for _, tie := range pairsOf(g.knots) {
			is := impl.BridgeIs(n, tie.A, tie.B)
			if is {
				want = append(want, tie)
			}
			if is != g.isBridge(tie.A, tie.B) || is != impl.BridgeIs(n, tie.B, tie.A) {
				t.Fatalf("BridgeIs %v %v: %v", n, tie, is)
			}
		}
		if got := impl.BridgeList(n); !slices.Equal(got, want) {
			t.Fatalf("BridgeList %v: %v, not %v", n, got, want)
		}
	}
}

// P33: in each tree, not in the one alone that is told, and in no ring of all that there are.
func TestEachBridgeIsInTheTreeAndInNoRing(t *testing.T) {
	t.Parallel()
	rows, r := newRowTable(), numbers(9)
	for g := range grids() {
		n, ways := g.net(), g.ways(rows)
		bridges := impl.BridgeList(n)
		for _, tree := range append(g.treesOf(&r), impl.TreeOf(n)) {
			if rest := others(bridges, tree); len(rest) != 0 {
				t.Fatalf("%v: the bridges %v are not in the tree %v", n, rest, tree)
			}
		}
		for _, tie := range n.Ties {
			if isInRing(ways, tie) == slices.Contains(bridges, tie) {
				t.Fatalf("%v: %v is in a ring, and a bridge, or none of both", n, tie)
			}
		}
	}
}

// P33: the rings that the program tells.
func TestNoBridgeIsInARingThatIsTold(t *testing.T) {
	for g := range bridgeGrids() {
		n := g.net()
		bridges, rest := impl.BridgeList(n), slices.Clone(n.Ties)
		if left := others(bridges, impl.TreeOf(n)); len(left) != 0 {
			t.Fatalf("%v: the bridges %v are not in the tree", n, left)
		}
		for _, ring := range impl.TreeRings(n) {
			rest = others(rest, ringTies(ring))
		}
		// What is in none of these rings is a bridge, as by them each ring can be made.
		if !slices.Equal(bridges, rest) {
			t.Fatalf("%v: bridges %v, in no ring %v", n, bridges, rest)
		}
	}
}

// P34.
func TestATieMoreMakesNoNewBridge(t *testing.T) {
	t.Parallel()
	for g := range bridgeGrids() {
		n := g.net()
		before, parts := impl.BridgeList(n), impl.WayParts(n)
		for _, tie := range others(pairsOf(g.knots), n.Ties) {
			more, _ := impl.NetAdd(n, tie.A, tie.B)
			after := impl.BridgeList(more)
			if rest := others(after, inserted(before, tie)); len(rest) != 0 {
				t.Fatalf("%v with %v: %v are new bridges", n, tie, rest)
			}
			two := parts[tie.A] != parts[tie.B]
			if slices.Contains(after, tie) != two || impl.BridgeIs(more, tie.B, tie.A) != two {
				t.Fatalf("%v with %v: bridges %v", n, tie, after)
			}
			if two && !slices.Equal(after, inserted(before, tie)) {
				t.Fatalf("%v with %v between two parts: bridges %v, not these and itself", n, tie, after)
			}
		}
	}
}

// P35.
func TestPartsWithoutBridges(t *testing.T) {
	t.Parallel()
	for g := range bridgeGrids() {
		n := g.net()
		parts := impl.BridgeParts(n)
		if got, want := countOf(parts), impl.WayCount(n)+len(impl.BridgeList(n)); got != want {
			t.Fatalf("BridgeParts %v: %v, of %d parts, not %d", n, parts, got, want)
		}
		if want := g.bridgeParts(); !slices.Equal(parts, want) {
			t.Fatalf("BridgeParts %v: %v, not %v", n, parts, want)
		}
		cut := n
		for _, tie := range impl.BridgeList(n) {
			cut, _ = impl.NetCut(cut, tie.A, tie.B)
		}
		if want := impl.WayParts(cut); !slices.Equal(parts, want) {
			t.Fatalf("BridgeParts %v: %v, not the parts %v of %v", n, parts, want, cut)
		}
	}
}

// P36.
func TestWithABridgeCutJustTheOthersAreBridges(t *testing.T) {
	t.Parallel()
	for g := range bridgeGrids() {
		n := g.net()
		bridges := impl.BridgeList(n)
		for i, tie := range bridges {
			less, _ := impl.NetCut(n, tie.A, tie.B)
			if got, want := impl.BridgeList(less), without(bridges, i); !slices.Equal(got, want) {
				t.Fatalf("%v without the bridge %v: bridges %v, not %v", n, tie, got, want)
			}
			if got, want := impl.BridgeParts(less), impl.BridgeParts(n); !slices.Equal(got, want) {
				t.Fatalf("%v without the bridge %v: BridgeParts %v, not %v", n, tie, got, want)
			}
		}
	}
}

// P37.
func TestWithoutABridgeEachKnotIsOfOneEnds(t *testing.T) {
	t.Parallel()
	for g := range bridgeGrids() {
		n := g.net()
		for _, tie := range impl.BridgeList(n) {
			less, ok := impl.NetCut(n, tie.A, tie.B)
			if !ok {
				t.Fatalf("%v: the bridge %v is no tie", n, tie)
			}
			whole := impl.WayReach(n, tie.A)
			ofA, ofB := impl.WayReach(less, tie.A), impl.WayReach(less, tie.B)
			for k := range g.knots {
				if whole[k] != (ofA[k] != ofB[k]) || !whole[k] && (ofA[k] || ofB[k]) {
					t.Fatalf("%v without the bridge %v: %d is of both ends', or of none", n, tie, k)
				}
				// From an end to those of the other one's a bridge is told.
				_, parted := impl.BridgeApart(n, tie.A, k)
				if ofB[k] && !parted {
					t.Fatalf("BridgeApart %v %d %d: none, but %v is between", n, tie.A, k, tie)
				}
			}
		}
	}
}

// BridgeApart, of any two numbers: the first bridge by the document's words.
func TestBridgeApartOfAnyTwo(t *testing.T) {
	t.Parallel()
	check := func(g grid, numbers []int) {
		n := g.net()
		for _, a := range numbers {
			for _, b := range numbers {
				got, ok := impl.BridgeApart(n, a, b)
				if want, wanted := g.apart(a, b); got != want || ok != wanted {
					t.Fatalf("BridgeApart %v %d %d: %v %v, not %v %v", n, a, b, got, ok, want, wanted)
				}
			}
		}
	}
	for g := range bridgeGrids() {
		check(g, knotsOf(g.knots))
	}
	for _, g := range shapes() {
		check(g, places())
	}
	for _, g := range []grid{{}, {knots: 1}, {knots: 2}, gridOf(2, 1), {knots: impl.NetKnots}, gridOf(impl.NetKnots, 1<<63-1)} {
		check(g, places())
	}
}

// BridgeApart tells a bridge just if both are of one part, and not so without bridges.
func TestBridgeApartJustIfBridgesPart(t *testing.T) {
	t.Parallel()
	for g := range bridgeGrids() {
		n := g.net()
		whole, parts := impl.WayParts(n), impl.BridgeParts(n)
		for a := range g.knots {
			for b := range g.knots {
				tie, ok := impl.BridgeApart(n, a, b)
				if ok != (whole[a] == whole[b] && parts[a] != parts[b]) || ok && !impl.BridgeIs(n, tie.A, tie.B) {
					t.Fatalf("BridgeApart %v %d %d: %v %v", n, a, b, tie, ok)
				}
				if other, also := impl.BridgeApart(n, b, a); other != tie || also != ok {
					t.Fatalf("BridgeApart %v %d %d: %v, and from the other one %v", n, a, b, tie, other)
				}
			}
		}
	}
}

func TestBridgesAsWritten(t *testing.T) {
	line := grid{knots: impl.NetKnots}.lined(knotsOf(impl.NetKnots)...).net()
	ring := grid{knots: impl.NetKnots}.ringed(knotsOf(impl.NetKnots)...).net()
	for _, c := range []struct {
		what    string
		net     impl.Net
		bridges []impl.Tie
		parts   []int
	}{
		{"no knots", impl.Net{}, nil, nil},
		{"no knots, an empty list", impl.Net{Ties: []impl.Tie{}}, nil, nil},
		{"one knot", impl.Net{Knots: 1}, nil, []int{0}},
		{"two alone", impl.Net{Knots: 2}, nil, []int{0, 1}},
		{"all alone", impl.Net{Knots: impl.NetKnots}, nil, knotsOf(impl.NetKnots)},
		{"all pairs tied", fullNet(), nil, make([]int, impl.NetKnots)},
		{"one tie", netOf(2, 0, 1), tiesOf(0, 1), []int{0, 1}},
		{"the last tie", netOf(8, 6, 7), tiesOf(6, 7), knotsOf(8)},
		{"a way of all knots", line, line.Ties, knotsOf(8)},
		{"a way of all knots, to and fro", netOf(8, 0, 7, 7, 1, 1, 6, 6, 2, 2, 5, 5, 3, 3, 4), tiesOf(0, 7, 1, 6, 1, 7, 2, 5, 2, 6, 3, 4, 3, 5), knotsOf(8)},
		{"one ring of all knots", ring, nil, make([]int, 8)},
		{"a ring of three", netOf(3, 0, 1, 0, 2, 1, 2), nil, []int{0, 0, 0}},
		{"a star", netOf(8, 0, 7, 1, 7, 2, 7, 3, 7, 4, 7, 5, 7, 6, 7), tiesOf(0, 7, 1, 7, 2, 7, 3, 7, 4, 7, 5, 7, 6, 7), knotsOf(8)},
		{"a ring, and a tie that hangs from it", netOf(4, 0, 1, 0, 2, 1, 2, 1, 3), tiesOf(1, 3), []int{0, 0, 0, 3}},
		{"a ring that hangs from a tie", netOf(4, 0, 3, 1, 2, 1, 3, 2, 3), tiesOf(0, 3), []int{0, 1, 1, 1}},
		{"two rings at one knot", netOf(5, 0, 1, 0, 2, 1, 2, 2, 3, 2, 4, 3, 4), nil, make([]int, 5)},
		{"two rings, a tie between, and two alone", netOf(8, 0, 1, 1, 2, 2, 0, 2, 3, 3, 4, 4, 5, 5, 3, 6, 7), tiesOf(2, 3, 6, 7), []int{0, 0, 0, 3, 3, 3, 6, 7}},
		{"bridges that are found last first", netOf(6, 0, 5, 1, 5, 1, 4, 2, 4, 2, 3), tiesOf(0, 5, 1, 4, 1, 5, 2, 3, 2, 4), knotsOf(6)},
		{"a part with a bridge behind one without", netOf(8, 0, 2, 0, 4, 2, 4, 1, 3, 5, 6, 5, 7, 6, 7), tiesOf(1, 3), []int{0, 1, 0, 3, 0, 5, 5, 5}},
		{"a part without behind one with a bridge", netOf(8, 0, 7, 1, 2, 1, 3, 2, 3, 4, 5), tiesOf(0, 7, 4, 5), []int{0, 1, 1, 1, 4, 5, 6, 7}},
	} {
		if got := impl.BridgeList(c.net); !slices.Equal(got, c.bridges) {
			t.Errorf("%s: BridgeList %v, not %v", c.what, got, c.bridges)
		}
		if got := impl.BridgeParts(c.net); !slices.Equal(got, c.parts) {
			t.Errorf("%s: BridgeParts %v, not %v", c.what, got, c.parts)
		}
		for _, a := range places() {
			for _, b := range places() {
				want := slices.Contains(c.bridges, impl.Tie{A: a, B: b}) || slices.Contains(c.bridges, impl.Tie{A: b, B: a})
				if impl.BridgeIs(c.net, a, b) != want {
					t.Errorf("%s: BridgeIs %d %d: %v", c.what, a, b, !want)
				}
			}
		}
	}
}

func TestBridgeApartAsWritten(t *testing.T) {
	two := netOf(8, 0, 1, 1, 2, 2, 0, 2, 3, 3, 4, 4, 5, 5, 3, 6, 7)
	line := netOf(6, 0, 5, 1, 5, 1, 4, 2, 4, 2, 3)
	for _, c := range []struct {
		what string
		net  impl.Net
		a, b int
		tie  impl.Tie
		ok   bool
	}{
		{"over the tie between two rings", two, 0, 5, impl.Tie{A: 2, B: 3}, true},
		{"its own ends", two, 3, 2, impl.Tie{A: 2, B: 3}, true},
		{"a tie that is a part", two, 7, 6, impl.Tie{A: 6, B: 7}, true},
		{"in one ring", two, 0, 1, impl.Tie{}, false},
		{"in the other ring", two, 5, 3, impl.Tie{}, false},
		{"of two parts", two, 0, 6, impl.Tie{}, false},
		{"of two parts, turned about", two, 7, 3, impl.Tie{}, false},
		{"the same", two, 2, 2, impl.Tie{}, false},
		{"the same, the least", two, 0, 0, impl.Tie{}, false},
		{"a knot past the end", two, 2, 8, impl.Tie{}, false},
		{"a knot below 0", two, -1, 2, impl.Tie{}, false},
		{"the same, past the end", two, 8, 8, impl.Tie{}, false},
		{"far past both ends", two, math.MinInt, math.MaxInt, impl.Tie{}, false},
		{"past the end by a power of two", two, 0, 1<<32 + 5, impl.Tie{}, false},
		{"the first in order, the last on the way", line, 3, 0, impl.Tie{A: 0, B: 5}, true},
		{"the first in order from the midst", line, 4, 3, impl.Tie{A: 2, B: 3}, true},
		{"the first in order, neither end's", line, 2, 5, impl.Tie{A: 1, B: 4}, true},
		{"no knots", impl.Net{}, 0, 0, impl.Tie{}, false},
		{"no knots, two", impl.Net{}, 0, 1, impl.Tie{}, false},
		{"one knot", impl.Net{Knots: 1}, 0, 0, impl.Tie{}, false},
		{"one knot, and none", impl.Net{Knots: 1}, 0, 1, impl.Tie{}, false},
		{"two alone", impl.Net{Knots: 2}, 0, 1, impl.Tie{}, false},
		{"one tie", netOf(2, 0, 1), 1, 0, impl.Tie{A: 0, B: 1}, true},
		{"one tie, and one that is no knot", netOf(2, 0, 1), 1, 2, impl.Tie{}, false},
		{"all pairs tied", fullNet(), 0, 7, impl.Tie{}, false},
	} {
		if tie, ok := impl.BridgeApart(c.net, c.a, c.b); tie != c.tie || ok != c.ok {
			t.Errorf("%s: BridgeApart %d %d: %v %v, not %v %v", c.what, c.a, c.b, tie, ok, c.tie, c.ok)
		}
	}
}

// Each function, of a net that is not ok.
func TestBridgesOfNetsThatAreNotOk(t *testing.T) {
	for _, bad := range badNets() {
		if list := impl.BridgeList(bad.net); len(list) != 0 {
			t.Errorf("BridgeList, %s: %v", bad.name, list)
		}
		if parts := impl.BridgeParts(bad.net); len(parts) != 0 {
			t.Errorf("BridgeParts, %s: %v", bad.name, parts)
		}
		for _, a := range places() {
			for _, b := range places() {
				if impl.BridgeIs(bad.net, a, b) {
					t.Errorf("BridgeIs %d %d, %s", a, b, bad.name)
				}
				if tie, ok := impl.BridgeApart(bad.net, a, b); ok || tie != (impl.Tie{}) {
					t.Errorf("BridgeApart %d %d, %s: %v %v", a, b, bad.name, tie, ok)
				}
			}
		}
	}
}

// bridgeSays is what is said of any two of some numbers.
type bridgeSays struct {
	is   bool
	tie  impl.Tie
	told bool
}

func bridgeSaysOf(n impl.Net) []bridgeSays {
	var out []bridgeSays
	for a := -1; a <= impl.NetKnots; a++ {
		for b := -1; b <= impl.NetKnots; b++ {
			tie, told := impl.BridgeApart(n, a, b)
			out = append(out, bridgeSays{impl.BridgeIs(n, a, b), tie, told})
		}
	}
	return out
}

func expectBridgesApart(t *testing.T, n impl.Net) {
	t.Helper()
	arg, whole := roomy(n)
	before := slices.Clone(whole)
	list, parts, says := impl.BridgeList(arg), impl.BridgeParts(arg), bridgeSaysOf(arg)
	againList, againParts := impl.BridgeList(arg), impl.BridgeParts(arg)
	if !slices.Equal(whole, before) {
		t.Fatalf("%v: an argument was changed", n)
	}
	if !slices.Equal(list, againList) || !slices.Equal(parts, againParts) || !slices.Equal(says, bridgeSaysOf(arg)) {
		t.Fatalf("%v: asked again it answers other things", n)
	}
	wantList, wantParts := slices.Clone(list), slices.Clone(parts)
	scribble(impl.Net{Ties: list})
	if !slices.Equal(whole, before) || !slices.Equal(againList, wantList) {
		t.Fatalf("%v: the bridges share memory", n)
	}
	expectListsApart(t, "BridgeParts", [][]int{parts, againParts})
	// Nothing is kept: whatever was written into answers, all is as it was.
	if !slices.Equal(impl.BridgeList(arg), wantList) || !slices.Equal(impl.BridgeParts(arg), wantParts) || !slices.Equal(bridgeSaysOf(arg), says) {
		t.Fatalf("%v: asked behind that it answers other things", n)
	}
	// The net is looked at alone, not the room behind its ties.
	tight := impl.Net{Knots: n.Knots, Ties: slices.Clip(slices.Clone(n.Ties))}
	if !slices.Equal(impl.BridgeList(tight), wantList) || !slices.Equal(impl.BridgeParts(tight), wantParts) || !slices.Equal(bridgeSaysOf(tight), says) {
		t.Fatalf("%v: it answers other things by the room of its ties", n)
	}
}

func TestMemoryOfBridgesIsApart(t *testing.T) {
	t.Parallel()
	for g := range grids() {
		expectBridgesApart(t, g.net())
		// Nets that are trees themselves: here the bridges look just as the argument does.
		expectBridgesApart(t, impl.Net{Knots: g.knots, Ties: g.treeBy(g.net().Ties)})
	}
	for _, g := range shapes() {
		expectBridgesApart(t, g.net())
	}
	for _, bad := range badNets() {
		expectBridgesApart(t, bad.net)
	}
}
