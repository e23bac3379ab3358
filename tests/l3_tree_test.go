package tests

import (
	"math"
	"slices"
	"testing"

	"loop.example/osier/impl"
)

// P25.
func TestTreeOfIsATree(t *testing.T) {
	check := func(g grid) {
		n := g.net()
		tree := impl.TreeOf(n)
		if !impl.TreeOk(n, tree) || !g.isTree(tree) {
			t.Fatalf("TreeOf %v: %v is none", n, tree)
		}
		if len(tree) != n.Knots-impl.WayCount(n) {
			t.Fatalf("TreeOf %v: %v, of %d parts", n, tree, impl.WayCount(n))
		}
	}
	for g := range allGrids(5) {
		check(g)
	}
	for g := range grids() {
		check(g)
	}
}

// TreeOf takes just those ties that the document's words take, in their order.
func TestWhichTiesAreTaken(t *testing.T) {
	check := func(g grid) {
		n := g.net()
		if got, want := impl.TreeOf(n), g.treeBy(n.Ties); !slices.Equal(got, want) {
			t.Fatalf("TreeOf %v: %v, not %v", n, got, want)
		}
	}
	for g := range allGrids(5) {
		check(g)
	}
	for g := range grids() {
		check(g)
	}
}

// P26, and that TreeOk knows all trees: all choices of ties of each net of at most five knots.
func TestNoTreeStandsAhead(t *testing.T) {
	t.Parallel()
	for g := range allGrids(5) {
		n := g.net()
		tree := impl.TreeOf(n)
		for list := range subsets(n.Ties) {
			ok := g.isTree(list)
			if impl.TreeOk(n, list) != ok {
				t.Fatalf("TreeOk %v %v: %v", n, list, !ok)
			}
			if ok && tiesAhead(list, tree) {
				t.Fatalf("%v: the tree %v stands ahead of %v", n, list, tree)
			}
		}
	}
}

// P26: of greater nets, trees whose ties are taken in many orders.
func TestNoTreeStandsAheadOfGreaterNets(t *testing.T) {
	t.Parallel()
	r := numbers(4)
	for g := range grids() {
		n := g.net()
		tree := impl.TreeOf(n)
		for range 20 {
			other := g.treeBy(shuffled(n.Ties, &r))
			if !impl.TreeOk(n, other) {
				t.Fatalf("TreeOk %v %v: false", n, other)
			}
			if tiesAhead(other, tree) {
				t.Fatalf("%v: the tree %v stands ahead of %v", n, other, tree)
			}
		}
	}
}

// No fewer ties hold all together than a tree has, and all that are as few and do are trees.
func TestATreeIsAsFewAsCanBe(t *testing.T) {
	for g := range allGrids(4) {
		n := g.net()
		fewest := len(n.Ties)
		for list := range subsets(n.Ties) {
			if g.holdsAll(list) {
				fewest = min(fewest, len(list))
			}
		}
		for list := range subsets(n.Ties) {
			want := g.holdsAll(list) && len(list) == fewest
			if impl.TreeOk(n, list) != want {
				t.Fatalf("TreeOk %v %v: %v", n, list, !want)
			}
		}
	}
}

// P27.
func TestATieMayStandForAnyOfItsRing(t *testing.T) {
	check := func(g grid) {
		n := g.net()
		tree := impl.TreeOf(n)
		rest, rings := others(n.Ties, tree), impl.TreeRings(n)
		if len(rest) != len(rings) {
			t.Fatalf("TreeRings %v: %v, of %v", n, rings, rest)
		}
		for i, ring := range rings {
			of := 0
			for j := 1; j < len(ring); j++ {
				place := slices.Index(tree, tieOf(ring[j-1], ring[j]))
				if place < 0 {
					t.Fatalf("TreeRings %v: %v is not by %v", n, ring, tree)
				}
				of++
				if other := inserted(without(tree, place), rest[i]); !impl.TreeOk(n, other) {
					t.Fatalf("%v: %v may not stand for %v in %v", n, rest[i], tree[place], tree)
				}
			}
			if of < 2 {
				t.Fatalf("TreeRings %v: %v is no ring", n, ring)
			}
			// Where it may stand it is of its ring.
			for place := range tree {
				if other := inserted(without(tree, place), rest[i]); impl.TreeOk(n, other) {
					of--
				}
			}
			if of != 0 {
				t.Fatalf("%v: %v may stand for others than those of %v", n, rest[i], ring)
			}
		}
	}
	for g := range allGrids(5) {
		check(g)
	}
	for g := range grids() {
		check(g)
	}
}

// P28: each ring is taken from all rows of knots.
func TestARingForEachTieThatIsNotInTheTree(t *testing.T) {
	t.Parallel()
	rows := newRowTable()
	check := func(g grid) {
		n := g.net()
		tree := g.treeBy(n.Ties)
		ways := g.by(tree).ways(rows)
		var want [][]int
		for _, tie := range others(n.Ties, tree) {
			if all := ways[tie.B][tie.A]; len(all) == 1 {
				want = append(want, all[0])
			} else {
				t.Fatalf("the test is wrong: %v: %v", tree, all)
			}
		}
		if got := impl.TreeRings(n); !sameLists(got, want) {
			t.Fatalf("TreeRings %v: %v, not %v", n, got, want)
		}
	}
	for g := range allGrids(5) {
		check(g)
	}
	for g := range grids() {
		check(g)
	}
}

// P28: what the program itself says of its rings.
func TestARingIsClosedByItsTie(t *testing.T) {
	for g := range grids() {
		n := g.net()
		tree := impl.Net{Knots: n.Knots, Ties: impl.TreeOf(n)}
		rest, rings := others(n.Ties, tree.Ties), impl.TreeRings(n)
		if len(rest) != len(rings) || len(rest) != len(n.Ties)-len(tree.Ties) {
			t.Fatalf("TreeRings %v: %v, of %v", n, rings, rest)
		}
		for i, ring := range rings {
			way, _ := impl.WayFind(tree, rest[i].B, rest[i].A)
			if len(ring) < 3 || !impl.WayOk(tree, ring) || !slices.Equal(ring, way) {
				t.Fatalf("TreeRings %v: %v of %v, by %v", n, ring, rest[i], tree.Ties)
			}
			if !impl.NetHas(n, ring[0], ring[len(ring)-1]) || impl.NetHas(tree, ring[0], ring[len(ring)-1]) {
				t.Fatalf("TreeRings %v: %v is closed by no tie of its own", n, ring)
			}
		}
	}
}

// tiesOf is pairs of numbers as a list of ties, just as they stand.
func tiesOf(ends ...int) []impl.Tie {
	var out []impl.Tie
	for i := 0; i < len(ends); i += 2 {
		out = append(out, impl.Tie{A: ends[i], B: ends[i+1]})
	}
	return out
}

func TestTreesAsWritten(t *testing.T) {
	for _, c := range []struct {
		what  string
		net   impl.Net
		tree  []impl.Tie
		rings [][]int
	}{
		{"no knots", impl.Net{}, nil, nil},
		{"no knots, an empty list", impl.Net{Ties: []impl.Tie{}}, nil, nil},
		{"one knot", impl.Net{Knots: 1}, nil, nil},
		{"two alone", impl.Net{Knots: 2}, nil, nil},
		{"all alone", impl.Net{Knots: impl.NetKnots}, nil, nil},
		{"one tie", netOf(2, 0, 1), tiesOf(0, 1), nil},
		{"the last tie", netOf(8, 6, 7), tiesOf(6, 7), nil},
		{"a ring of three", netOf(3, 0, 1, 0, 2, 1, 2), tiesOf(0, 1, 0, 2), [][]int{{2, 0, 1}}},
		{"a ring of four", netOf(4, 0, 1, 1, 2, 2, 3, 0, 3), tiesOf(0, 1, 0, 3, 1, 2), [][]int{{3, 0, 1, 2}}},
		{"a ring that meets below the top", netOf(5, 0, 4, 1, 2, 1, 4, 2, 4), tiesOf(0, 4, 1, 2, 1, 4), [][]int{{4, 1, 2}}},
		{"a ring up from the end alone", netOf(4, 0, 1, 1, 2, 2, 3, 1, 3), tiesOf(0, 1, 1, 2, 1, 3), [][]int{{3, 1, 2}}},
		{"a line, tied to and fro", netOf(8, 0, 7, 7, 1, 1, 6, 6, 2, 2, 5, 5, 3, 3, 4), tiesOf(0, 7, 1, 6, 1, 7, 2, 5, 2, 6, 3, 4, 3, 5), nil},
		{"that line, closed", netOf(8, 0, 7, 7, 1, 1, 6, 6, 2, 2, 5, 5, 3, 3, 4, 0, 4), tiesOf(0, 4, 0, 7, 1, 6, 1, 7, 2, 5, 2, 6, 3, 4), [][]int{{5, 2, 6, 1, 7, 0, 4, 3}}},
		{"three parts", netOf(8, 0, 3, 0, 6, 3, 6, 1, 4, 1, 7, 4, 7, 2, 5), tiesOf(0, 3, 0, 6, 1, 4, 1, 7, 2, 5), [][]int{{6, 0, 3}, {7, 1, 4}}},
		{"a star", netOf(8, 0, 7, 1, 7, 2, 7, 3, 7, 4, 7, 5, 7, 6, 7), tiesOf(0, 7, 1, 7, 2, 7, 3, 7, 4, 7, 5, 7, 6, 7), nil},
		{"two sides of two and three", netOf(5, 0, 2, 0, 3, 0, 4, 1, 2, 1, 3, 1, 4), tiesOf(0, 2, 0, 3, 0, 4, 1, 2), [][]int{{3, 0, 2, 1}, {4, 0, 2, 1}}},
	} {
		if got := impl.TreeOf(c.net); !slices.Equal(got, c.tree) {
			t.Errorf("%s: TreeOf %v, not %v", c.what, got, c.tree)
		}
		if got := impl.TreeRings(c.net); !sameLists(got, c.rings) {
			t.Errorf("%s: TreeRings %v, not %v", c.what, got, c.rings)
		}
		if !impl.TreeOk(c.net, c.tree) {
			t.Errorf("%s: not TreeOk", c.what)
		}
		if impl.TreeOk(c.net, c.net.Ties) != (len(c.rings) == 0) {
			t.Errorf("%s: TreeOk of all ties", c.what)
		}
		if impl.TreeOk(c.net, nil) != (len(c.tree) == 0) || impl.TreeOk(c.net, []impl.Tie{}) != (len(c.tree) == 0) {
			t.Errorf("%s: TreeOk of no ties", c.what)
		}
	}
}

func TestATreeOfAllPairs(t *testing.T) {
	full := fullNet()
	star := tiesOf(0, 1, 0, 2, 0, 3, 0, 4, 0, 5, 0, 6, 0, 7)
	if got := impl.TreeOf(full); !slices.Equal(got, star) {
		t.Errorf("TreeOf %v", got)
	}
	var want [][]int
	for _, tie := range full.Ties[7:] {
		want = append(want, []int{tie.B, 0, tie.A})
	}
	if got := impl.TreeRings(full); !sameLists(got, want) {
		t.Errorf("TreeRings %v", got)
	}
	for _, list := range [][]impl.Tie{star, tiesOf(0, 1, 1, 2, 2, 3, 3, 4, 4, 5, 5, 6, 6, 7), tiesOf(0, 7, 1, 7, 2, 7, 3, 7, 4, 7, 5, 7, 6, 7)} {
		if !impl.TreeOk(full, list) {
			t.Errorf("not TreeOk %v", list)
		}
	}
}

// Wrong lists, each for one reason.
func TestTiesThatAreNoTree(t *testing.T) {
	n := netOf(6, 0, 1, 0, 2, 1, 2, 2, 3, 1, 3, 4, 5)
	for _, good := range [][]impl.Tie{tiesOf(0, 1, 0, 2, 1, 3, 4, 5), tiesOf(0, 2, 1, 3, 2, 3, 4, 5), tiesOf(0, 1, 1, 2, 2, 3, 4, 5)} {
		if !impl.TreeOk(n, good) {
			t.Errorf("not TreeOk %v", good)
		}
	}
	for _, c := range []struct {
		what string
		list []impl.Tie
	}{
		{"none", nil},
		{"empty", []impl.Tie{}},
		{"one too few", tiesOf(0, 1, 0, 2, 1, 3)},
		{"one too few in the midst", tiesOf(0, 1, 1, 3, 4, 5)},
		{"one too many", tiesOf(0, 1, 0, 2, 1, 2, 1, 3, 4, 5)},
		{"all", n.Ties},
		{"as many, with a ring, and one alone", tiesOf(0, 1, 0, 2, 1, 2, 4, 5)},
		{"as many, with a ring, and a part in two", tiesOf(0, 1, 0, 2, 1, 2, 1, 3)},
		{"as many, a ring of four", tiesOf(0, 1, 0, 2, 1, 3, 2, 3)},
		{"twice", tiesOf(0, 1, 0, 2, 1, 3, 1, 3, 4, 5)},
		{"twice, and as many", tiesOf(0, 1, 0, 2, 1, 3, 1, 3)},
		{"twice at the end", tiesOf(0, 1, 0, 2, 1, 3, 4, 5, 4, 5)},
		{"twice, the other one turned about", tiesOf(0, 1, 0, 2, 1, 3, 4, 5, 5, 4)},
		{"out of order", tiesOf(0, 2, 0, 1, 1, 3, 4, 5)},
		{"out of order by A", tiesOf(1, 3, 0, 1, 0, 2, 4, 5)},
		{"the last first", tiesOf(4, 5, 0, 1, 0, 2, 1, 3)},
		{"turned about", tiesOf(1, 0, 0, 2, 1, 3, 4, 5)},
		{"turned about, in order", tiesOf(0, 1, 0, 2, 1, 3, 5, 4)},
		{"all turned about", tiesOf(1, 0, 2, 0, 3, 1, 5, 4)},
		{"not of the net", tiesOf(0, 1, 0, 2, 0, 3, 4, 5)},
		{"not of the net, between two parts", tiesOf(0, 1, 0, 2, 1, 3, 3, 4)},
		{"one more, between two parts", tiesOf(0, 1, 0, 2, 1, 3, 3, 4, 4, 5)},
		{"to itself", tiesOf(0, 0, 0, 1, 0, 2, 1, 3, 4, 5)},
		{"to itself in place of one", tiesOf(0, 1, 0, 2, 3, 3, 4, 5)},
		{"the last to itself", tiesOf(0, 1, 0, 2, 1, 3, 5, 5)},
		{"a knot past the end", tiesOf(0, 1, 0, 2, 1, 3, 4, 6)},
		{"one more past the end", tiesOf(0, 1, 0, 2, 1, 3, 4, 5, 5, 6)},
		{"both past the end", tiesOf(0, 1, 0, 2, 1, 3, 6, 7)},
		{"both past all knots", tiesOf(0, 1, 0, 2, 1, 3, 4, 5, 8, 9)},
		{"far past the end", tiesOf(0, 1, 0, 2, 1, 3, 4, math.MaxInt)},
		{"past the end by a power of two", tiesOf(0, 1, 0, 2, 1, 3, 4, 1<<32+5)},
		{"below 0", tiesOf(-1, 0, 0, 1, 0, 2, 1, 3, 4, 5)},
		{"both below 0", tiesOf(-2, -1, 0, 1, 0, 2, 1, 3, 4, 5)},
		{"far below 0", tiesOf(math.MinInt, 1, 0, 2, 1, 3, 4, 5)},
		{"from end to end", tiesOf(math.MinInt, math.MaxInt)},
		{"a great many", slices.Repeat(tiesOf(0, 1, 0, 2, 1, 3, 4, 5), 1000)},
	} {
		if impl.TreeOk(n, c.list) {
			t.Errorf("TreeOk, %s: %v", c.what, c.list)
		}
	}
	// Numbers that are no knots, or make no tie, are wrong in each place, and with no knots too.
	for _, a := range places() {
		for _, b := range places() {
			tie := impl.Tie{A: a, B: b}
			if impl.TreeOk(impl.Net{}, []impl.Tie{tie}) || impl.TreeOk(impl.Net{Knots: impl.NetKnots}, []impl.Tie{tie}) {
				t.Errorf("TreeOk %v, without ties", tie)
			}
			if got := impl.TreeOk(netOf(2, 0, 1), []impl.Tie{tie}); got != (tie == impl.Tie{B: 1}) {
				t.Errorf("TreeOk %v, of one tie: %v", tie, got)
			}
		}
	}
}

// Of all short lists of ties, wrong ones too, just those are trees that the document's words let be.
func TestTreeOkOfAllShortLists(t *testing.T) {
	t.Parallel()
	var ties []impl.Tie
	for a := -1; a <= 3; a++ {
		for b := -1; b <= 3; b++ {
			ties = append(ties, impl.Tie{A: a, B: b})
		}
	}
	for g := range allGrids(3) {
		n := g.net()
		check := func(list ...impl.Tie) {
			if want := g.isTree(list); impl.TreeOk(n, list) != want {
				t.Fatalf("TreeOk %v %v: %v", n, list, !want)
			}
		}
		check()
		for _, x := range ties {
			check(x)
			for _, y := range ties {
				check(x, y)
				for _, z := range ties {
					check(x, y, z)
				}
			}
		}
	}
}

// Of greater nets: lists that are a step away from a tree.
func TestTreeOkOfListsNearATree(t *testing.T) {
	t.Parallel()
	r := numbers(5)
	for g := range grids() {
		n := g.net()
		check := func(list []impl.Tie) {
			t.Helper()
			if want := g.isTree(list); impl.TreeOk(n, list) != want {
				t.Fatalf("TreeOk %v %v: %v", n, list, !want)
			}
		}
		tree := g.treeBy(shuffled(n.Ties, &r))
		check(tree)
		check(turned(tree))
		for i := range tree {
			check(without(tree, i))
			check(slices.Insert(slices.Clone(tree), i, tree[i]))
			about := slices.Clone(tree)
			about[i].A, about[i].B = about[i].B, about[i].A
			check(about)
			if i > 0 {
				swapped := slices.Clone(tree)
				swapped[i-1], swapped[i] = swapped[i], swapped[i-1]
				check(swapped)
			}
		}
		for range 10 {
			tie := pairsOf(impl.NetKnots)[r.below(len(pairsOf(impl.NetKnots)))]
			if tie.B >= g.knots && impl.TreeOk(n, inserted(tree, tie)) {
				t.Fatalf("TreeOk %v with %v", n, tie)
			}
			if tie.B < g.knots {
				check(inserted(tree, tie))
				if len(tree) > 0 {
					check(inserted(without(tree, r.below(len(tree))), tie))
				}
			}
		}
	}
}

// Each function, of a net that is not ok.
func TestTreesOfNetsThatAreNotOk(t *testing.T) {
	for _, bad := range badNets() {
		if tree := impl.TreeOf(bad.net); len(tree) != 0 {
			t.Errorf("TreeOf, %s: %v", bad.name, tree)
		}
		if rings := impl.TreeRings(bad.net); len(rings) != 0 {
			t.Errorf("TreeRings, %s: %v", bad.name, rings)
		}
		for _, list := range [][]impl.Tie{nil, {}, tiesOf(0, 1), bad.net.Ties, bad.net.Ties[:min(1, len(bad.net.Ties))], tiesOf(0, 1, 1, 2), tiesOf(-1, 0), tiesOf(math.MinInt, math.MaxInt)} {
			if impl.TreeOk(bad.net, list) {
				t.Errorf("TreeOk, %s: %v", bad.name, list)
			}
		}
		// A list that holds together what the net's ties would, were they in order.
		list := slices.Clone(bad.net.Ties)
		slices.SortFunc(list, compareTies)
		if impl.TreeOk(bad.net, slices.Compact(list)) {
			t.Errorf("TreeOk, %s: its ties in order", bad.name)
		}
	}
}

func expectTreesApart(t *testing.T, n impl.Net) {
	t.Helper()
	arg, whole := roomy(n)
	before := slices.Clone(whole)
	tree, rings := impl.TreeOf(arg), impl.TreeRings(arg)
	again := impl.TreeOf(arg)
	if !slices.Equal(whole, before) {
		t.Fatalf("%v: an argument was changed", n)
	}
	wantTree, wantRings := slices.Clone(tree), cloneLists(rings)
	scribble(impl.Net{Ties: tree})
	if !slices.Equal(whole, before) || !slices.Equal(again, wantTree) {
		t.Fatalf("%v: the tree shares memory", n)
	}
	expectListsApart(t, "rings", rings[:cap(rings)])
	// Nothing is kept: asked again, all is as it was.
	if !slices.Equal(impl.TreeOf(arg), wantTree) || !sameLists(impl.TreeRings(arg), wantRings) || !slices.Equal(whole, before) {
		t.Fatalf("%v: asked again it answers other things", n)
	}
	// Nets that are trees themselves: here the answer looks just as the argument does.
	arg, whole = roomy(impl.Net{Knots: n.Knots, Ties: wantTree})
	before = slices.Clone(whole)
	scribble(impl.Net{Ties: impl.TreeOf(arg)})
	if !slices.Equal(whole, before) {
		t.Fatalf("%v: a tree's tree shares memory with it", wantTree)
	}
}

func TestMemoryOfTreesIsApart(t *testing.T) {
	for g := range grids() {
		expectTreesApart(t, g.net())
	}
	for _, bad := range badNets() {
		expectTreesApart(t, bad.net)
	}
}

// Ties that are asked about are not changed, nor what lies behind their end, and their room is not looked at.
func TestTiesThatAreAskedAboutAreNotChanged(t *testing.T) {
	nets := []impl.Net{fullNet(), netOf(4, 0, 1, 0, 2, 1, 2, 2, 3), netOf(3, 0, 1), {}, {Knots: 8}, {Knots: 99}}
	for _, n := range nets {
		for _, list := range [][]impl.Tie{nil, impl.TreeOf(n), turned(impl.TreeOf(n)), n.Ties, tiesOf(0, 1), tiesOf(1, 0), tiesOf(0, 1, 0, 1), tiesOf(1, 2, 0, 1), tiesOf(-1, 9), tiesOf(0, 1, 1, 2, 2, 3)} {
			arg, whole := roomyTies(list)
			before := slices.Clone(whole)
			net, ties := roomy(n)
			tiesBefore := slices.Clone(ties)
			if impl.TreeOk(net, arg) != impl.TreeOk(n, slices.Clip(slices.Clone(list))) {
				t.Errorf("%v: %v is a tree or not by its room", n, list)
			}
			if !slices.Equal(whole, before) || !slices.Equal(ties, tiesBefore) {
				t.Errorf("%v: asked about %v, an argument was changed", n, list)
			}
		}
		// The net's own ties as the list: one memory in two arguments.
		net, ties := roomy(n)
		before := slices.Clone(ties)
		if impl.TreeOk(net, net.Ties) != impl.TreeOk(n, slices.Clone(n.Ties)) || !slices.Equal(ties, before) {
			t.Errorf("%v: asked about its own ties", n)
		}
	}
}
