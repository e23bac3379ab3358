package tests

import (
	"math"
	"slices"
	"testing"

	"loop.example/osier/impl"
)

// P38: by what the program itself says of parts.
func TestAKnotCutsJustIfItPartsTwoOthers(t *testing.T) {
	t.Parallel()
	for g := range blockGrids() {
		n := g.net()
		parts, cuts := impl.WayParts(n), impl.BlockCuts(n)
		var want []int
		for k := range g.knots {
			left := impl.WayParts(impl.NetWithout(n, k))
			if partsTwo(parts, left, k) {
				want = append(want, k)
			}
		}
		if !slices.Equal(cuts, want) {
			t.Fatalf("BlockCuts %v: %v, not %v", n, cuts, want)
		}
	}
}

// partsTwo says whether two knots but that one are of one part, and of two in what is left.
func partsTwo(parts, left []int, k int) bool {
	for a := range parts {
		for b := range parts {
			if a != k && b != k && parts[a] == parts[b] && left[a] != left[b] {
				return true
			}
		}
	}
	return false
}

// P38, P39, P40: all nets of at most six knots, and more, by the document's words.
func TestBlocksOfAllSmallNets(t *testing.T) {
	t.Parallel()
	check := func(g grid) {
		n := g.net()
		cuts, list := g.cuts(), g.linked()
		knots := knotsOfBlocks(list)
		if got := impl.BlockCuts(n); !slices.Equal(got, cuts) {
			t.Fatalf("BlockCuts %v: %v, not %v", n, got, cuts)
		}
		if got := impl.BlockList(n); !sameLists(got, list) {
			t.Fatalf("BlockList %v: %v, not %v", n, got, list)
		}
		if got := impl.BlockKnots(n); !sameLists(got, knots) {
			t.Fatalf("BlockKnots %v: %v, not %v", n, got, knots)
		}
		if got, want := impl.BlockTree(n), blockTree(cuts, knots); !slices.Equal(got, want) {
			t.Fatalf("BlockTree %v: %v, not %v", n, got, want)
		}
	}
	for g := range allGrids(6) {
		check(g)
	}
	for g := range blockGrids() {
		check(g)
	}
}

// P39.
func TestEachTieIsInJustOneBlock(t *testing.T) {
	t.Parallel()
	for g := range blockGrids() {
		n := g.net()
		list := impl.BlockList(n)
		var all, firsts []impl.Tie
		for _, block := range list {
			if len(block) == 0 || !g.inOrder(block) {
				t.Fatalf("BlockList %v: %v is empty, or not ties of it in order", n, block)
			}
			all = append(all, block...)
			firsts = append(firsts, block[0])
		}
		if !g.inOrder(firsts) {
			t.Fatalf("BlockList %v: %v is not by first ties", n, list)
		}
		slices.SortFunc(all, compareTies)
		if !slices.Equal(all, n.Ties) {
			t.Fatalf("BlockList %v: %v has not each tie once", n, list)
		}
	}
}

// P40: by rings that are taken from all rows of knots.
func TestTwoTiesAreInOneBlockJustIfInOneRing(t *testing.T) {
	t.Parallel()
	rows := newRowTable()
	check := func(g grid) {
		n, mates := g.net(), g.mates(rows)
		if got, want := impl.BlockList(n), mates.blocks(n.Ties); !sameLists(got, want) {
			t.Fatalf("BlockList %v: %v, not %v", n, got, want)
		}
		for _, x := range n.Ties {
			for _, y := range n.Ties {
				if want := mates[x][y]; impl.BlockSame(n, x, y) != want {
					t.Fatalf("BlockSame %v %v %v: %v", n, x, y, !want)
				}
			}
		}
	}
	for g := range allGrids(5) {
		check(g)
	}
	for g := range grids() {
		check(g)
	}
	for _, g := range slices.Concat(shapes(), blockShapes()) {
		check(g)
	}
}

// P40: what the program itself says: BlockSame is as BlockList, and a ring that is told is in one block.
func TestBlockSameIsAsBlockList(t *testing.T) {
	t.Parallel()
	for g := range blockGrids() {
		n := g.net()
		list := impl.BlockList(n)
		for _, x := range n.Ties {
			for _, y := range n.Ties {
				want := placeOf(list, x) >= 0 && placeOf(list, x) == placeOf(list, y)
				if impl.BlockSame(n, x, y) != want {
					t.Fatalf("BlockSame %v %v %v: %v, of %v", n, x, y, !want, list)
				}
			}
		}
		for _, ring := range impl.TreeRings(n) {
			ties := ringTies(ring)
			for _, tie := range ties {
				if !impl.BlockSame(n, ties[0], tie) {
					t.Fatalf("%v: %v and %v of the ring %v are in two blocks", n, ties[0], tie, ring)
				}
			}
		}
	}
}

// P41.
func TestBridgesAreTheBlocksOfOneTie(t *testing.T) {
	t.Parallel()
	for g := range blockGrids() {
		n := g.net()
		var single []impl.Tie
		for _, block := range impl.BlockList(n) {
			if len(block) == 1 {
				single = append(single, block[0])
			}
			if len(block) == 2 {
				t.Fatalf("BlockList %v: %v is of two ties, which no ring has", n, block)
			}
		}
		if got := impl.BridgeList(n); !slices.Equal(single, got) || !slices.Equal(single, g.bridges()) {
			t.Fatalf("%v: blocks of one tie %v, bridges %v", n, single, got)
		}
	}
}

// P42.
func TestTwoBlocksHaveOneKnotAtMostInCommon(t *testing.T) {
	t.Parallel()
	for g := range blockGrids() {
		n := g.net()
		cuts, knots := impl.BlockCuts(n), impl.BlockKnots(n)
		for i := range knots {
			for j := range i {
				both := common(knots[i], knots[j])
				if len(both) > 1 || len(common(both, cuts)) != len(both) {
					t.Fatalf("%v: the blocks of %v and %v have %v in common; cuts %v", n, knots[j], knots[i], both, cuts)
				}
			}
		}
	}
}

// P43: and BlockTree tells just these blocks.
func TestAKnotCutsJustIfItIsInTwoBlocks(t *testing.T) {
	t.Parallel()
	for g := range blockGrids() {
		n := g.net()
		cuts, knots := impl.BlockCuts(n), impl.BlockKnots(n)
		for k := range g.knots {
			in := 0
			for _, list := range knots {
				if slices.Contains(list, k) {
					in++
				}
			}
			if slices.Contains(cuts, k) != (in >= 2) {
				t.Fatalf("%v: %d is in %d blocks of %v; cuts %v", n, k, in, knots, cuts)
			}
		}
		if !slices.IsSorted(cuts) || len(slices.Compact(slices.Clone(cuts))) != len(cuts) {
			t.Fatalf("BlockCuts %v: %v is not ascending", n, cuts)
		}
		if got, want := impl.BlockTree(n), blockTree(cuts, knots); !slices.Equal(got, want) {
			t.Fatalf("BlockTree %v: %v, not %v", n, got, want)
		}
	}
}

// BlockKnots is just the knots of BlockList's ties.
func TestBlockKnotsAreThoseOfItsTies(t *testing.T) {
	t.Parallel()
	for g := range blockGrids() {
		n := g.net()
		if got, want := impl.BlockKnots(n), knotsOfBlocks(impl.BlockList(n)); !sameLists(got, want) {
			t.Fatalf("BlockKnots %v: %v, not %v", n, got, want)
		}
	}
}

// P44: by their numbers, a tree has one tie less than it joins; and no tie of it is one too many.
func TestKnotsThatCutAndBlocksHangTogetherAsTrees(t *testing.T) {
	t.Parallel()
	for g := range blockGrids() {
		n := g.net()
		cuts, blocks, tree := impl.BlockCuts(n), impl.BlockList(n), impl.BlockTree(n)
		if len(tree) != len(cuts)+len(blocks)-g.partsWithTies() {
			t.Fatalf("%v: %v joins the knots %v and %d blocks of %d parts with ties", n, tree, cuts, len(blocks), g.partsWithTies())
		}
		// What is joined: knots by their numbers, blocks by their places behind these.
		names := knotsOf(impl.NetKnots + len(blocks))
		for _, tie := range tree {
			if !slices.Contains(cuts, tie.A) || tie.B < 0 || tie.B >= len(blocks) {
				t.Fatalf("BlockTree %v: %v is no knot that cuts, or no block", n, tie)
			}
			x, y := names[tie.A], names[impl.NetKnots+tie.B]
			if x == y {
				t.Fatalf("BlockTree %v: %v closes a ring", n, tie)
			}
			for i := range names {
				if names[i] == y {
					names[i] = x
				}
			}
		}
		// Blocks hang together just if they are of one part.
		parts := impl.WayParts(n)
		for i, x := range blocks {
			for j, y := range blocks {
				if (names[impl.NetKnots+i] == names[impl.NetKnots+j]) != (parts[x[0].A] == parts[y[0].A]) {
					t.Fatalf("BlockTree %v: %v, by which %v and %v hang together, or do not", n, tree, x, y)
				}
			}
		}
	}
}

// P45.
func TestBlocksKnotsLessOneEach(t *testing.T) {
	t.Parallel()
	for g := range blockGrids() {
		n := g.net()
		sum := 0
		for _, knots := range impl.BlockKnots(n) {
			if len(knots) < 2 {
				t.Fatalf("BlockKnots %v: %v is no block's", n, knots)
			}
			sum += len(knots) - 1
		}
		if want := n.Knots - impl.WayCount(n); sum != want {
			t.Fatalf("BlockKnots %v: %v, less one each %d, not %d", n, impl.BlockKnots(n), sum, want)
		}
	}
}

// P46.
func TestWithATieMoreTiesOfOneBlockStaySo(t *testing.T) {
	t.Parallel()
	for g := range blockGrids() {
		n := g.net()
		blocks := impl.BlockList(n)
		for _, tie := range others(pairsOf(g.knots), n.Ties) {
			more, _ := impl.NetAdd(n, tie.A, tie.B)
			after := impl.BlockList(more)
			for _, block := range blocks {
				place := placeOf(after, block[0])
				if place < 0 || len(others(block, after[place])) != 0 {
					t.Fatalf("%v with %v: the block %v is in pieces: %v", n, tie, block, after)
				}
				for _, other := range block {
					if !impl.BlockSame(more, block[0], other) || !impl.BlockSame(more, other, block[0]) {
						t.Fatalf("%v with %v: %v and %v are in two blocks", n, tie, block[0], other)
					}
				}
			}
			// A tie between two parts is a block by itself, and all others stay as they are.
			if !g.onePart(tie.A, tie.B) && !sameLists(without(after, max(0, placeOf(after, tie))), blocks) {
				t.Fatalf("%v with %v between two parts: blocks %v, not %v and itself", n, tie, after, blocks)
			}
		}
	}
}

// BlockSame does not matter which tie is first, and goes over from tie to tie.
func TestBlockSameEitherWay(t *testing.T) {
	t.Parallel()
	for g := range grids() {
		n := g.net()
		for _, x := range n.Ties {
			if !impl.BlockSame(n, x, x) {
				t.Fatalf("BlockSame %v %v with itself: false", n, x)
			}
			for _, y := range n.Ties {
				if impl.BlockSame(n, x, y) != impl.BlockSame(n, y, x) {
					t.Fatalf("BlockSame %v %v %v: not either way", n, x, y)
				}
			}
		}
	}
}

// The edges, each with what is answered written out.
func TestBlocksAsWritten(t *testing.T) {
	line := netOf(8, 0, 1, 1, 2, 2, 3, 3, 4, 4, 5, 5, 6, 6, 7)
	ring := netOf(8, 0, 1, 1, 2, 2, 3, 3, 4, 4, 5, 5, 6, 6, 7, 0, 7)
	lace := [][]impl.Tie{tiesOf(0, 1), tiesOf(1, 2), tiesOf(2, 3), tiesOf(3, 4), tiesOf(4, 5), tiesOf(5, 6), tiesOf(6, 7)}
	rays := [][]impl.Tie{tiesOf(0, 7), tiesOf(1, 7), tiesOf(2, 7), tiesOf(3, 7), tiesOf(4, 7), tiesOf(5, 7), tiesOf(6, 7)}
	for _, c := range []struct {
		what   string
		net    impl.Net
		cuts   []int
		blocks [][]impl.Tie
		tree   []impl.Tie
	}{
		{"no knots", impl.Net{}, nil, nil, nil},
		{"no knots, an empty list", impl.Net{Ties: []impl.Tie{}}, nil, nil, nil},
		{"one knot", impl.Net{Knots: 1}, nil, nil, nil},
		{"two alone", impl.Net{Knots: 2}, nil, nil, nil},
		{"all alone", impl.Net{Knots: impl.NetKnots}, nil, nil, nil},
		{"a tie alone", netOf(2, 0, 1), nil, [][]impl.Tie{tiesOf(0, 1)}, nil},
		{"a tie alone among knots", netOf(8, 6, 7), nil, [][]impl.Tie{tiesOf(6, 7)}, nil},
		{"two ties alone", netOf(4, 0, 3, 1, 2), nil, [][]impl.Tie{tiesOf(0, 3), tiesOf(1, 2)}, nil},
		{"two ties", netOf(3, 0, 1, 1, 2), []int{1}, [][]impl.Tie{tiesOf(0, 1), tiesOf(1, 2)}, tiesOf(1, 0, 1, 1)},
		{"two ties at the first knot", netOf(3, 0, 1, 0, 2), []int{0}, [][]impl.Tie{tiesOf(0, 1), tiesOf(0, 2)}, tiesOf(0, 0, 0, 1)},
		{"all pairs tied", fullNet(), nil, [][]impl.Tie{fullNet().Ties}, nil},
		{"a way of all knots", line, []int{1, 2, 3, 4, 5, 6}, lace, tiesOf(1, 0, 1, 1, 2, 1, 2, 2, 3, 2, 3, 3, 4, 3, 4, 4, 5, 4, 5, 5, 6, 5, 6, 6)},
		{"one ring of all knots", ring, nil, [][]impl.Tie{ring.Ties}, nil},
		{"a ring of three", netOf(3, 0, 1, 0, 2, 1, 2), nil, [][]impl.Tie{tiesOf(0, 1, 0, 2, 1, 2)}, nil},
		{"a tree, a knot of seven blocks", netOf(8, 0, 7, 1, 7, 2, 7, 3, 7, 4, 7, 5, 7, 6, 7), []int{7}, rays, tiesOf(7, 0, 7, 1, 7, 2, 7, 3, 7, 4, 7, 5, 7, 6)},
		{"a tree that forks", netOf(6, 0, 4, 1, 4, 4, 5, 2, 5, 3, 5), []int{4, 5}, [][]impl.Tie{tiesOf(0, 4), tiesOf(1, 4), tiesOf(2, 5), tiesOf(3, 5), tiesOf(4, 5)}, tiesOf(4, 0, 4, 1, 4, 4, 5, 2, 5, 3, 5, 4)},
		{"two rings that share a knot", netOf(5, 0, 1, 0, 2, 1, 2, 2, 3, 2, 4, 3, 4), []int{2}, [][]impl.Tie{tiesOf(0, 1, 0, 2, 1, 2), tiesOf(2, 3, 2, 4, 3, 4)}, tiesOf(2, 0, 2, 1)},
		{"three rings that share the last knot", netOf(7, 0, 1, 0, 6, 1, 6, 2, 3, 2, 6, 3, 6, 4, 5, 4, 6, 5, 6), []int{6}, [][]impl.Tie{tiesOf(0, 1, 0, 6, 1, 6), tiesOf(2, 3, 2, 6, 3, 6), tiesOf(4, 5, 4, 6, 5, 6)}, tiesOf(6, 0, 6, 1, 6, 2)},
		{"three rings that share the first knot", netOf(7, 0, 1, 0, 2, 1, 2, 0, 3, 0, 4, 3, 4, 0, 5, 0, 6, 5, 6), []int{0}, [][]impl.Tie{tiesOf(0, 1, 0, 2, 1, 2), tiesOf(0, 3, 0, 4, 3, 4), tiesOf(0, 5, 0, 6, 5, 6)}, tiesOf(0, 0, 0, 1, 0, 2)},
		{"rings to and fro at the first knot", netOf(5, 0, 1, 0, 2, 0, 3, 0, 4, 1, 4, 2, 3), []int{0}, [][]impl.Tie{tiesOf(0, 1, 0, 4, 1, 4), tiesOf(0, 2, 0, 3, 2, 3)}, tiesOf(0, 0, 0, 1)},
		{"two rings that share a tie", netOf(4, 0, 1, 0, 2, 1, 2, 1, 3, 2, 3), nil, [][]impl.Tie{tiesOf(0, 1, 0, 2, 1, 2, 1, 3, 2, 3)}, nil},
		{"three rings that share a tie, one after the other", netOf(8, 0, 1, 1, 2, 2, 3, 0, 3, 3, 4, 4, 5, 2, 5, 5, 6, 6, 7, 4, 7), nil, [][]impl.Tie{tiesOf(0, 1, 0, 3, 1, 2, 2, 3, 2, 5, 3, 4, 4, 5, 4, 7, 5, 6, 6, 7)}, nil},
		{"a ring, and a tie that hangs from it", netOf(4, 0, 1, 0, 2, 1, 2, 1, 3), []int{1}, [][]impl.Tie{tiesOf(0, 1, 0, 2, 1, 2), tiesOf(1, 3)}, tiesOf(1, 0, 1, 1)},
		{"a ring that hangs from a tie", netOf(4, 0, 3, 1, 2, 1, 3, 2, 3), []int{3}, [][]impl.Tie{tiesOf(0, 3), tiesOf(1, 2, 1, 3, 2, 3)}, tiesOf(3, 0, 3, 1)},
		{"two rings, and a tie between", netOf(6, 0, 1, 0, 2, 1, 2, 2, 3, 3, 4, 3, 5, 4, 5), []int{2, 3}, [][]impl.Tie{tiesOf(0, 1, 0, 2, 1, 2), tiesOf(2, 3), tiesOf(3, 4, 3, 5, 4, 5)}, tiesOf(2, 0, 2, 1, 3, 1, 3, 2)},
		{"several parts, of one block and of more", netOf(8, 0, 4, 0, 7, 4, 7, 1, 3, 3, 5, 2, 6), []int{3}, [][]impl.Tie{tiesOf(0, 4, 0, 7, 4, 7), tiesOf(1, 3), tiesOf(2, 6), tiesOf(3, 5)}, tiesOf(3, 1, 3, 3)},
		{"a part of one block behind one of more", netOf(8, 0, 2, 2, 4, 1, 5, 1, 7, 5, 7), []int{2}, [][]impl.Tie{tiesOf(0, 2), tiesOf(1, 5, 1, 7, 5, 7), tiesOf(2, 4)}, tiesOf(2, 0, 2, 2)},
		{"blocks that are done last first", netOf(6, 0, 5, 1, 5, 1, 4, 2, 4, 2, 3), []int{1, 2, 4, 5}, [][]impl.Tie{tiesOf(0, 5), tiesOf(1, 4), tiesOf(1, 5), tiesOf(2, 3), tiesOf(2, 4)}, tiesOf(1, 1, 1, 2, 2, 3, 2, 4, 4, 1, 4, 4, 5, 0, 5, 2)},
	} {
		if !impl.NetOk(c.net) {
			t.Fatalf("the test is wrong: %s", c.what)
		}
		if got := impl.BlockCuts(c.net); !slices.Equal(got, c.cuts) {
			t.Errorf("%s: BlockCuts %v, not %v", c.what, got, c.cuts)
		}
		if got := impl.BlockList(c.net); !sameLists(got, c.blocks) {
			t.Errorf("%s: BlockList %v, not %v", c.what, got, c.blocks)
		}
		if got, want := impl.BlockKnots(c.net), knotsOfBlocks(c.blocks); !sameLists(got, want) {
			t.Errorf("%s: BlockKnots %v, not %v", c.what, got, want)
		}
		if got := impl.BlockTree(c.net); !slices.Equal(got, c.tree) {
			t.Errorf("%s: BlockTree %v, not %v", c.what, got, c.tree)
		}
		expectBlockSame(t, c.net, c.blocks)
	}
}

func TestBlockKnotsAsWritten(t *testing.T) {
	for _, c := range []struct {
		what string
		net  impl.Net
		want [][]int
	}{
		{"a tie alone", netOf(2, 0, 1), [][]int{{0, 1}}},
		{"all pairs tied", fullNet(), [][]int{knotsOf(impl.NetKnots)}},
		{"a ring whose ties go to and fro", netOf(8, 0, 7, 7, 1, 1, 6, 6, 2, 2, 5, 0, 5), [][]int{{0, 1, 2, 5, 6, 7}}},
		{"two rings, a tie, and a part of its own", netOf(8, 0, 1, 1, 2, 0, 2, 2, 3, 3, 4, 2, 4, 4, 5, 6, 7), [][]int{{0, 1, 2}, {2, 3, 4}, {4, 5}, {6, 7}}},
		{"by first ties, not by knots", netOf(5, 0, 3, 0, 4, 3, 4, 1, 2, 2, 3), [][]int{{0, 3, 4}, {1, 2}, {2, 3}}},
	} {
		if got := impl.BlockKnots(c.net); !sameLists(got, c.want) {
			t.Errorf("%s: BlockKnots %v, not %v", c.what, got, c.want)
		}
	}
}

// anyTies is ties of all numbers from one below 0 to one past the last knot of all, and some of numbers farther off.
func anyTies() []impl.Tie {
	var out []impl.Tie
	for a := -1; a <= impl.NetKnots; a++ {
		for b := -1; b <= impl.NetKnots; b++ {
			out = append(out, impl.Tie{A: a, B: b})
		}
	}
	// Numbers that some narrower count would take for those of the tie from 0 to 1.
	for _, far := range []int{8, 64, 256, 1 << 32} {
		out = append(out, impl.Tie{A: 0, B: 1 + far}, impl.Tie{A: far, B: 1}, impl.Tie{A: -far, B: 1}, impl.Tie{A: far, B: far + 1})
	}
	return append(out, tiesOf(math.MinInt, math.MaxInt, math.MaxInt, math.MinInt, math.MinInt, math.MinInt, math.MaxInt, math.MaxInt, 0, math.MaxInt, math.MinInt, 1)...)
}

// expectBlockSame fails if any two ties, of the net or not, are said to be in one of these blocks and are not, or the other way.
func expectBlockSame(t *testing.T, n impl.Net, blocks [][]impl.Tie) {
	t.Helper()
	ties := anyTies()
	places := make([]int, len(ties))
	for i, tie := range ties {
		places[i] = placeOf(blocks, tie)
	}
	for i, x := range ties {
		for j, y := range ties {
			want := places[i] >= 0 && places[i] == places[j]
			if impl.BlockSame(n, x, y) != want {
				t.Fatalf("BlockSame %v %v %v: %v", n, x, y, !want)
			}
		}
	}
}

// BlockSame of any two ties: turned about, to itself, of no knots, not of the net.
func TestBlockSameOfAnyTwo(t *testing.T) {
	t.Parallel()
	for _, g := range slices.Concat(shapes(), blockShapes()) {
		expectBlockSame(t, g.net(), g.linked())
	}
}

func TestBlockSameOfTiesThatAreNone(t *testing.T) {
	n := netOf(7, 0, 1, 0, 2, 1, 2, 2, 3, 3, 4, 2, 4, 4, 5)
	good := impl.Tie{A: 0, B: 1}
	for _, c := range []struct {
		what string
		tie  impl.Tie
	}{
		{"not tied", impl.Tie{A: 0, B: 3}},
		{"of two parts", impl.Tie{A: 0, B: 6}},
		{"turned about", impl.Tie{A: 1, B: 0}},
		{"another one turned about", impl.Tie{A: 2, B: 1}},
		{"a knot to itself", impl.Tie{A: 1, B: 1}},
		{"the first knot to itself", impl.Tie{}},
		{"a knot past the end", impl.Tie{A: 0, B: 7}},
		{"both past the end", impl.Tie{A: 7, B: 8}},
		{"below 0", impl.Tie{A: -1, B: 0}},
		{"far off", impl.Tie{A: math.MinInt, B: math.MaxInt}},
		{"past the end by a power of two", impl.Tie{A: 0, B: 1<<32 + 1}},
	} {
		if impl.BlockSame(n, c.tie, c.tie) {
			t.Errorf("BlockSame, %s, twice: true", c.what)
		}
		if impl.BlockSame(n, good, c.tie) || impl.BlockSame(n, c.tie, good) {
			t.Errorf("BlockSame, %s, with a tie: true", c.what)
		}
	}
	if !impl.BlockSame(n, good, good) || !impl.BlockSame(n, good, impl.Tie{A: 0, B: 2}) || impl.BlockSame(n, good, impl.Tie{A: 2, B: 4}) {
		t.Error("BlockSame of ties of the net")
	}
}

// Each function, of a net that is not ok.
func TestBlocksOfNetsThatAreNotOk(t *testing.T) {
	for _, bad := range badNets() {
		if list := impl.BlockCuts(bad.net); len(list) != 0 {
			t.Errorf("BlockCuts, %s: %v", bad.name, list)
		}
		if list := impl.BlockList(bad.net); len(list) != 0 {
			t.Errorf("BlockList, %s: %v", bad.name, list)
		}
		if list := impl.BlockKnots(bad.net); len(list) != 0 {
			t.Errorf("BlockKnots, %s: %v", bad.name, list)
		}
		if list := impl.BlockTree(bad.net); len(list) != 0 {
			t.Errorf("BlockTree, %s: %v", bad.name, list)
		}
		// The net's own ties too, as far as there are not too many, and the same one twice.
		ties := slices.Concat(anyTies(), bad.net.Ties[:min(30, len(bad.net.Ties))])
		for _, x := range ties {
			if impl.BlockSame(bad.net, x, x) || impl.BlockSame(bad.net, x, ties[len(ties)-1]) || impl.BlockSame(bad.net, tieOf(0, 1), x) {
				t.Errorf("BlockSame %v, %s", x, bad.name)
			}
		}
	}
}

// blockAnswers is all that is answered of a net.
type blockAnswers struct {
	cuts  []int
	list  [][]impl.Tie
	knots [][]int
	tree  []impl.Tie
	same  []bool
}

func blockAnswersOf(n impl.Net) blockAnswers {
	out := blockAnswers{cuts: impl.BlockCuts(n), list: impl.BlockList(n), knots: impl.BlockKnots(n), tree: impl.BlockTree(n)}
	ties := append(tiesOf(0, 1, 1, 0, 0, 0, -1, 2, 7, 8), n.Ties[:min(4, len(n.Ties))]...)
	for _, x := range ties {
		for _, y := range ties {
			out.same = append(out.same, impl.BlockSame(n, x, y))
		}
	}
	return out
}

func (x blockAnswers) clone() blockAnswers {
	return blockAnswers{slices.Clone(x.cuts), cloneLists(x.list), cloneLists(x.knots), slices.Clone(x.tree), slices.Clone(x.same)}
}

func (x blockAnswers) equal(y blockAnswers) bool {
	return slices.Equal(x.cuts, y.cuts) && sameLists(x.list, y.list) && sameLists(x.knots, y.knots) && slices.Equal(x.tree, y.tree) && slices.Equal(x.same, y.same)
}

func expectBlocksApart(t *testing.T, n impl.Net) {
	t.Helper()
	arg, whole := roomy(n)
	before := slices.Clone(whole)
	first := blockAnswersOf(arg)
	want := first.clone()
	second := blockAnswersOf(arg)
	if !slices.Equal(whole, before) {
		t.Fatalf("%v: an argument was changed", n)
	}
	if !second.equal(want) {
		t.Fatalf("%v: asked again it answers other things", n)
	}
	// Lists that lie in the spare room of an answer count too.
	ties := slices.Concat(first.list[:cap(first.list)], second.list[:cap(second.list)], [][]impl.Tie{first.tree, second.tree})
	expectTiesApart(t, "BlockList, BlockTree", ties)
	knots := slices.Concat(first.knots[:cap(first.knots)], second.knots[:cap(second.knots)], [][]int{first.cuts, second.cuts})
	expectListsApart(t, "BlockKnots, BlockCuts", knots)
	if !slices.Equal(whole, before) {
		t.Fatalf("%v: an answer shares memory with its argument", n)
	}
	// Nothing is kept: whatever was written into answers, all is as it was.
	clear(first.list[:cap(first.list)])
	clear(first.knots[:cap(first.knots)])
	if !blockAnswersOf(arg).equal(want) {
		t.Fatalf("%v: asked behind that it answers other things", n)
	}
	// The net is looked at alone, not the room behind its ties.
	tight := impl.Net{Knots: n.Knots, Ties: slices.Clip(slices.Clone(n.Ties))}
	if !blockAnswersOf(tight).equal(want) {
		t.Fatalf("%v: it answers other things by the room of its ties", n)
	}
}

func TestMemoryOfBlocksIsApart(t *testing.T) {
	t.Parallel()
	for g := range grids() {
		expectBlocksApart(t, g.net())
	}
	for _, g := range slices.Concat(shapes(), blockShapes()) {
		expectBlocksApart(t, g.net())
	}
	for _, bad := range badNets() {
		expectBlocksApart(t, bad.net)
	}
}

// An answer is the same as often as it is asked, though blocks are numbered by a map.
func TestBlocksAskedManyTimes(t *testing.T) {
	for _, g := range slices.Concat(shapes(), blockShapes()) {
		n := g.net()
		want := blockAnswersOf(n)
		for range 50 {
			if !blockAnswersOf(n).equal(want) {
				t.Fatalf("%v: asked many times it answers other things", n)
			}
		}
	}
}
