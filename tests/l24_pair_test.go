package tests

import (
	"math"
	"slices"
	"testing"

	"loop.example/osier/impl"
)

// P88: by the document's words, and by what the program itself says; as many as can be by all pairs that there are.
func TestPairsThatAreToldAreSuch(t *testing.T) {
	t.Parallel()
	for g := range pairGrids() {
		n := g.net()
		list := impl.PairOf(n)
		if !g.arePairs(list) || !impl.PairOk(n, list) {
			t.Fatalf("PairOf %v: %v, which are none, or PairOk says so", n, list)
		}
		if most := len(firstOfMost(g.pairLists())); len(list) != most || impl.PairSize(n) != most {
			t.Fatalf("%v: PairOf tells %v, PairSize %d, but %d are most", n, list, impl.PairSize(n), most)
		}
	}
}

// P89: of all pairs that there are none are more, and PairWhy's knots show it; no set of knots lets there be fewer.
func TestNoPairsAreMoreAndPairWhyShowsIt(t *testing.T) {
	t.Parallel()
	for g := range pairGrids() {
		n := g.net()
		size, why := impl.PairSize(n), impl.PairWhy(n)
		for _, list := range g.pairLists() {
			if !impl.PairOk(n, list) || len(list) > size {
				t.Fatalf("%v: %v are pairs, PairOk says %v, PairSize %d", n, list, impl.PairOk(n, list), size)
			}
		}
		if !slices.Equal(why, knotsOfBits(bitsOfKnots(why))) {
			t.Fatalf("PairWhy %v: %v, which is not ascending", n, why)
		}
		if g.atMost(bitsOfKnots(why)) != 2*size {
			t.Fatalf("PairWhy %v: %v lets there be half of %d pairs, PairSize %d", n, why, g.atMost(bitsOfKnots(why)), size)
		}
		for set := range 1 << g.knots {
			if g.atMost(set) < 2*size {
				t.Fatalf("%v: PairSize %d, though %v lets there be but half of %d", n, size, knotsOfBits(set), g.atMost(set))
			}
		}
	}
}

// P89: of all sets of knots that show it the first, by bits, is told.
func TestPairWhyIsTheFirstByBits(t *testing.T) {
	t.Parallel()
	several, fewerLater := 0, 0
	for g := range pairGrids() {
		n := g.net()
		size, why := impl.PairSize(n), impl.PairWhy(n)
		all := slices.Collect(g.whys(size))
		if len(all) == 0 || !slices.Equal(why, knotsOfBits(all[0])) {
			t.Fatalf("PairWhy %v: %v, but by bits these show it: %v", n, why, all)
		}
		if len(why) > 0 && len(all) > 1 {
			several++
		}
		if slices.ContainsFunc(all, func(set int) bool { return len(knotsOfBits(set)) < len(why) }) {
			fewerLater++
		}
	}
	if several < 100 || fewerLater < 1 {
		t.Fatalf("the test is wrong: of %d nets several sets show it, and not the empty one, of %d one of fewer knots than the first", several, fewerLater)
	}
}

// P90: by the knots that stay alone of the pairs that are told.
func TestSoManyOddPartsMoreAsKnotsStayAlone(t *testing.T) {
	t.Parallel()
	alone, wanted := 0, 0
	for g := range pairGrids() {
		n := g.net()
		why := impl.PairWhy(n)
		stay := g.knots - len(knotsOfTies(impl.PairOf(n)))
		if more := g.oddPartsWithout(why) - len(why); more != stay {
			t.Fatalf("%v: without %v %d odd parts more than these are left, though %d knots stay alone", n, why, more, stay)
		}
		if stay > 1 {
			alone++
		}
		if len(why) > 0 {
			wanted++
		}
	}
	if alone < 1000 || wanted < 300 {
		t.Fatalf("the test is wrong: of %d nets several knots stay alone, of %d PairWhy tells any", alone, wanted)
	}
}

// P91: of all pairs that there are; those that one takes greedily are often others.
func TestNoPairsThatAreAsManyStandAhead(t *testing.T) {
	t.Parallel()
	otherwise, asMany := 0, 0
	for g := range pairGrids() {
		n := g.net()
		told := impl.PairOf(n)
		if slices.ContainsFunc(g.pairLists(), func(list []impl.Tie) bool {
			return impl.PairOk(n, list) && len(list) == len(told) && tiesAhead(list, told)
		}) {
			t.Fatalf("PairOf %v: %v, but others that are as many stand ahead", n, told)
		}
		greedy := greedyPairs(n.Ties)
		if !slices.Equal(greedy, told) {
			otherwise++
		}
		// Taken greedily from the last to the first they may be as many, and are not the first.
		if last := greedyPairs(turned(n.Ties)); len(last) == len(told) && len(common(last, told)) < len(told) {
			asMany++
		}
	}
	if otherwise < 500 || asMany < 1000 {
		t.Fatalf("the test is wrong: of %d nets the first are not those taken greedily, of %d others are as many", otherwise, asMany)
	}
}

// P92: of all pairs that there are.
func TestPairsWithoutOneArePairs(t *testing.T) {
	t.Parallel()
	for g := range pairGrids() {
		n := g.net()
		for _, list := range g.pairLists() {
			for at, tie := range list {
				if less := without(list, at); !impl.PairOk(n, less) {
					t.Fatalf("PairOk %v %v: false, though %v are pairs", n, less, list)
				}
				for place := at; place <= len(list); place++ {
					if twice := slices.Insert(slices.Clone(list), place, tie); impl.PairOk(n, twice) {
						t.Fatalf("PairOk %v %v: true, though %v is there twice", n, twice, tie)
					}
				}
			}
		}
	}
}

// P93.
func TestATieMoreLetsThereBeOnePairMore(t *testing.T) {
	t.Parallel()
	more, asMany := 0, 0
	for g := range pairGrids() {
		n := g.net()
		size := impl.PairSize(n)
		for _, tie := range others(pairsOf(g.knots), n.Ties) {
			tied, _ := impl.NetAdd(n, tie.A, tie.B)
			switch impl.PairSize(tied) {
			case size:
				asMany++
			case size + 1:
				more++
			default:
				t.Fatalf("PairSize %v: %d, and with %v %d", n, size, tie, impl.PairSize(tied))
			}
		}
	}
	if more < 1000 || asMany < 1000 {
		t.Fatalf("the test is wrong: %d ties let there be one more, %d as many", more, asMany)
	}
}

// P94.
func TestPairsAreNotMoreThanHalfTheKnotsThatHaveTies(t *testing.T) {
	t.Parallel()
	just := 0
	for g := range pairGrids() {
		n := g.net()
		size, tied := impl.PairSize(n), len(knotsOfTies(n.Ties))
		if 2*size > tied || (size == 0) != (len(n.Ties) == 0) {
			t.Fatalf("PairSize %v: %d, of %d knots that have ties", n, size, tied)
		}
		if (len(impl.PairOf(n)) == 0) != (len(n.Ties) == 0) {
			t.Fatalf("PairOf %v: %v", n, impl.PairOf(n))
		}
		if 2*size == tied {
			just++
		}
	}
	if just < 1000 {
		t.Fatalf("the test is wrong: but of %d nets no knot that has ties stays alone", just)
	}
}

// P95.
func TestWithoutAKnotThereIsOnePairLess(t *testing.T) {
	t.Parallel()
	less, asMany := 0, 0
	for g := range pairGrids() {
		n := g.net()
		size := impl.PairSize(n)
		for k := range g.knots {
			switch fewer := impl.PairSize(impl.NetWithout(n, k)); fewer {
			case size:
				asMany++
			case size - 1:
				less++
			default:
				t.Fatalf("PairSize %v: %d, and without %d %d", n, size, k, fewer)
			}
		}
	}
	if less < 1000 || asMany < 1000 {
		t.Fatalf("the test is wrong: without %d knots there is one less, without %d as many", less, asMany)
	}
}

// P96: of all pairs that there are.
func TestPairsToWhichOneCanBeAdded(t *testing.T) {
	t.Parallel()
	full, half := 0, 0
	for g := range pairGrids() {
		n := g.net()
		size := impl.PairSize(n)
		for _, list := range g.pairLists() {
			canAdd := slices.ContainsFunc(n.Ties, func(tie impl.Tie) bool {
				return impl.PairOk(n, inserted(list, tie))
			})
			if canAdd && len(list) >= size || !canAdd && 2*len(list) < size {
				t.Fatalf("%v: %v are pairs to which one can be added, %v, and PairSize is %d", n, list, canAdd, size)
			}
			if !canAdd && len(list) < size {
				full++
			}
			if !canAdd && 2*len(list) == size {
				half++
			}
		}
	}
	if full < 1000 || half < 100 {
		t.Fatalf("the test is wrong: %d pairs have room for none and are not most, %d are half as many", full, half)
	}
}

// P88, P89, P91: all nets of at most six knots, by all pairs that there are and all sets of knots.
func TestPairsOfAllSmallNets(t *testing.T) {
	t.Parallel()
	for g := range allGrids(6) {
		expectPairs(t, g)
	}
}

// P88, P89, P91: greater ones.
func TestPairsOfGreaterNets(t *testing.T) {
	t.Parallel()
	for g := range pairGrids() {
		expectPairs(t, g)
	}
	for _, g := range slices.Concat(allShapes(), earShapes()) {
		expectPairs(t, g)
	}
}

func expectPairs(t *testing.T, g grid) {
	t.Helper()
	want := firstOfMost(g.pairLists())
	why := g.firstWhy(len(want))
	if why < 0 {
		t.Fatalf("the test is wrong: %v has the pairs %v, and none shows that there are not more", g.net(), want)
	}
	if size := impl.PairSize(g.net()); size != len(want) {
		t.Fatalf("PairSize %v: %d, not %d", g.net(), size, len(want))
	}
	if list := impl.PairOf(g.net()); !slices.Equal(list, want) {
		t.Fatalf("PairOf %v: %v, not %v", g.net(), list, want)
	}
	if knots := impl.PairWhy(g.net()); !slices.Equal(knots, knotsOfBits(why)) {
		t.Fatalf("PairWhy %v: %v, not %v", g.net(), knots, knotsOfBits(why))
	}
}

// The edges of PairOf, PairSize and PairWhy, each with what is answered written out.
func TestPairsAsWritten(t *testing.T) {
	for _, c := range []struct {
		what  string
		net   impl.Net
		pairs []impl.Tie
		why   []int
	}{
		{"no knots", impl.Net{}, nil, nil},
		{"no knots, an empty list", impl.Net{Ties: []impl.Tie{}}, nil, nil},
		{"one knot", impl.Net{Knots: 1}, nil, nil},
		{"two knots, not tied", impl.Net{Knots: 2}, nil, nil},
		{"two knots, tied", netOf(2, 0, 1), tiesOf(0, 1), nil},
		{"three knots, not tied", impl.Net{Knots: 3}, nil, nil},
		{"three knots, two tied", netOf(3, 1, 2), tiesOf(1, 2), nil},
		{"three knots in a row", netOf(3, 0, 1, 1, 2), tiesOf(0, 1), nil},
		{"three knots in a ring", netOf(3, 0, 1, 1, 2, 0, 2), tiesOf(0, 1), nil},
		{"four knots in a row", netOf(4, 0, 1, 1, 2, 2, 3), tiesOf(0, 1, 2, 3), nil},
		{"four knots in a row, the first tie in the midst", netOf(4, 0, 1, 0, 2, 1, 3), tiesOf(0, 2, 1, 3), nil},
		{"five knots in a row", netOf(5, 0, 1, 1, 2, 2, 3, 3, 4), tiesOf(0, 1, 2, 3), nil},
		{"a ring of four", netOf(4, 0, 1, 1, 2, 2, 3, 0, 3), tiesOf(0, 1, 2, 3), nil},
		{"a ring of four, otherwise", netOf(4, 0, 2, 1, 2, 1, 3, 0, 3), tiesOf(0, 2, 1, 3), nil},
		{"a ring of five", netOf(5, 0, 1, 1, 2, 2, 3, 3, 4, 0, 4), tiesOf(0, 1, 2, 3), nil},
		{"a ring of six", netOf(6, 0, 1, 1, 2, 2, 3, 3, 4, 4, 5, 0, 5), tiesOf(0, 1, 2, 3, 4, 5), nil},
		{"a ring of seven", netOf(7, 0, 1, 1, 2, 2, 3, 3, 4, 4, 5, 5, 6, 0, 6), tiesOf(0, 1, 2, 3, 4, 5), nil},
		{"a ring of all", netOf(8, 0, 1, 1, 2, 2, 3, 3, 4, 4, 5, 5, 6, 6, 7, 0, 7), tiesOf(0, 1, 2, 3, 4, 5, 6, 7), nil},
		{"a ring of three, and a row that hangs from it", netOf(5, 0, 1, 1, 2, 0, 2, 2, 3, 3, 4), tiesOf(0, 1, 2, 3), nil},
		{"a ring of three, from which one hangs", netOf(4, 0, 1, 1, 2, 0, 2, 2, 3), tiesOf(0, 1, 2, 3), nil},
		{"a ring of three, from the first of which one hangs", netOf(4, 0, 1, 1, 2, 0, 2, 0, 3), tiesOf(0, 3, 1, 2), nil},
		{"two rings of three that share a knot", netOf(5, 0, 1, 1, 2, 0, 2, 2, 3, 3, 4, 2, 4), tiesOf(0, 1, 2, 3), nil},
		{"two rings of three that share the first knot", netOf(5, 0, 1, 1, 2, 0, 2, 0, 3, 3, 4, 0, 4), tiesOf(0, 1, 3, 4), nil},
		{"two rings of three that a tie joins", netOf(6, 0, 1, 1, 2, 0, 2, 2, 3, 3, 4, 4, 5, 3, 5), tiesOf(0, 1, 2, 3, 4, 5), nil},
		{"two rings of three that a tie joins, otherwise", netOf(6, 0, 2, 2, 4, 0, 4, 1, 3, 3, 5, 1, 5, 0, 1), tiesOf(0, 1, 2, 4, 3, 5), nil},
		{"two rings of three", netOf(6, 0, 1, 1, 2, 0, 2, 3, 4, 4, 5, 3, 5), tiesOf(0, 1, 3, 4), nil},
		{"two rings of three that a row of a knot joins", netOf(7, 0, 1, 1, 2, 0, 2, 2, 3, 3, 4, 4, 5, 5, 6, 4, 6), tiesOf(0, 1, 2, 3, 4, 5), nil},
		{"three rings of three at one knot", netOf(7, 0, 1, 1, 2, 0, 2, 0, 3, 3, 4, 0, 4, 0, 5, 5, 6, 0, 6), tiesOf(0, 1, 3, 4, 5, 6), nil},
		{"an odd ring at the end of a row", netOf(6, 0, 1, 1, 2, 2, 3, 3, 4, 4, 5, 3, 5), tiesOf(0, 1, 2, 3, 4, 5), nil},
		{"an odd ring at the end of a longer row", netOf(8, 0, 1, 1, 2, 2, 3, 3, 4, 4, 5, 5, 6, 6, 7, 5, 7), tiesOf(0, 1, 2, 3, 4, 5, 6, 7), nil},
		{"an odd ring at the end of a row that stays alone", netOf(5, 0, 1, 1, 2, 2, 3, 3, 4, 2, 4), tiesOf(0, 1, 2, 3), nil},
		{"a ring of five at the end of a row", netOf(8, 0, 1, 1, 2, 2, 3, 3, 4, 4, 5, 5, 6, 6, 7, 3, 7), tiesOf(0, 1, 2, 3, 4, 5, 6, 7), nil},
		{"an odd ring from which three hang", netOf(6, 0, 1, 1, 2, 0, 2, 0, 3, 1, 4, 2, 5), tiesOf(0, 3, 1, 4, 2, 5), nil},
		{"an odd ring, from one of which two hang", netOf(5, 0, 1, 1, 2, 0, 2, 0, 3, 0, 4), tiesOf(0, 3, 1, 2), nil},
		{"an odd ring, from one of which three hang", netOf(6, 0, 1, 1, 2, 0, 2, 0, 3, 0, 4, 0, 5), tiesOf(0, 3, 1, 2), []int{0}},
		{"an odd ring, from the last of which three hang", netOf(6, 0, 1, 1, 2, 0, 2, 2, 3, 2, 4, 2, 5), tiesOf(0, 1, 2, 3), []int{2}},
		{"odd rings within odd rings", ringsWithinRings().net(), tiesOf(0, 1, 2, 4, 3, 5, 6, 7), nil},
		{"odd rings within odd rings, and two that hang", ringsWithinRings().set(5, 6, false).lined(5, 7).net(), tiesOf(0, 1, 2, 4, 3, 5, 6, 7), nil},
		{"knots alone among parts", netOf(8, 1, 3, 3, 4, 6, 7), tiesOf(1, 3, 6, 7), nil},
		{"four parts of a tie each", netOf(8, 0, 7, 1, 6, 2, 5, 3, 4), tiesOf(0, 7, 1, 6, 2, 5, 3, 4), nil},
		{"three parts, each of an odd number", netOf(7, 0, 3, 3, 4, 1, 5, 5, 6, 1, 6), tiesOf(0, 3, 1, 5), nil},
		{"two parts, rows of three and five", netOf(8, 0, 1, 1, 2, 3, 4, 4, 5, 5, 6, 6, 7), tiesOf(0, 1, 3, 4, 5, 6), nil},
		{"two parts, a star and a ring", netOf(7, 0, 4, 1, 4, 2, 4, 3, 5, 5, 6, 3, 6), tiesOf(0, 4, 3, 5), []int{4}},
		{"two stars", netOf(8, 0, 3, 1, 3, 2, 3, 4, 7, 5, 7, 6, 7), tiesOf(0, 3, 4, 7), []int{3, 7}},
		{"two stars, of which the midsts are tied", netOf(8, 0, 3, 1, 3, 2, 3, 4, 7, 5, 7, 6, 7, 3, 7), tiesOf(0, 3, 4, 7), []int{3, 7}},
		{"two stars of three, of which the midsts are tied, and either shows it", netOf(6, 0, 3, 1, 3, 2, 4, 4, 5, 3, 4), tiesOf(0, 3, 2, 4), []int{3}},
		{"two stars of three, of which the midsts are tied, the later one with the lesser midst", netOf(6, 0, 4, 1, 4, 2, 3, 3, 5, 3, 4), tiesOf(0, 4, 2, 3), []int{3}},
		{"two knots show it, and a greater one alone", oneOrTwoShow().net(), tiesOf(0, 3, 1, 4, 2, 6), []int{0, 1}},
		{"one knot shows it, and two greater ones", oneOrTwoShow().renamed([]int{1, 2, 0, 3, 4, 5, 6, 7}).net(), tiesOf(0, 6, 1, 3, 2, 4), []int{0}},
		{"a star, the first in its midst", sidesFilled(1).net(), tiesOf(0, 1), []int{0}},
		{"a star, the last in its midst", sidesFilled(7).net(), tiesOf(0, 7), []int{7}},
		{"a star of four", netOf(4, 0, 1, 0, 2, 0, 3), tiesOf(0, 1), []int{0}},
		{"a star of four, the third in its midst", netOf(4, 0, 2, 1, 2, 2, 3), tiesOf(0, 2), []int{2}},
		{"a knot to which all others are tied, which are a row", netOf(5, 0, 4, 1, 4, 2, 4, 3, 4, 0, 1, 1, 2, 2, 3), tiesOf(0, 1, 2, 3), nil},
		{"two sides, of three and five", sidesFilled(3).net(), tiesOf(0, 3, 1, 4, 2, 5), []int{0, 1, 2}},
		{"two sides, of five and three", sidesFilled(5).net(), tiesOf(0, 5, 1, 6, 2, 7), []int{5, 6, 7}},
		{"two sides of four", sidesFilled(4).net(), tiesOf(0, 4, 1, 5, 2, 6, 3, 7), nil},
		{"two sides, of three and five, and a tie within the greater", sidesFilled(3).lined(3, 4).net(), tiesOf(0, 5, 1, 6, 2, 7, 3, 4), nil},
		{"two sides, of three and five, and a tie within the lesser", sidesFilled(3).lined(0, 1).net(), tiesOf(0, 3, 1, 4, 2, 5), []int{0, 1, 2}},
		{"two sides, of two and six", sidesFilled(2).net(), tiesOf(0, 2, 1, 3), []int{0, 1}},
		{"three rows that end at one knot", netOf(7, 0, 1, 1, 6, 2, 3, 3, 6, 4, 5, 5, 6), tiesOf(0, 1, 2, 3, 4, 5), nil},
		{"the first tie is in none that are most", netOf(4, 0, 1, 0, 2, 1, 3), tiesOf(0, 2, 1, 3), nil},
		{"the first tie is in none, and the second in some", netOf(6, 0, 1, 0, 2, 0, 3, 1, 4, 2, 5), tiesOf(0, 3, 1, 4, 2, 5), nil},
		{"a later tie is in none beside the first", netOf(6, 0, 1, 2, 3, 2, 4, 3, 5), tiesOf(0, 1, 2, 4, 3, 5), nil},
		{"first those of the least tie, not of the least last one", netOf(5, 0, 3, 0, 4, 1, 2, 1, 4, 2, 3), tiesOf(0, 3, 1, 2), nil},
		{"a row of all, to and fro", netOf(8, 0, 7, 1, 7, 1, 6, 2, 6, 2, 5, 3, 5, 3, 4), tiesOf(0, 7, 1, 6, 2, 5, 3, 4), nil},
		{"a cube", netOf(8, 0, 1, 1, 2, 2, 3, 0, 3, 4, 5, 5, 6, 6, 7, 4, 7, 0, 4, 1, 5, 2, 6, 3, 7), tiesOf(0, 1, 2, 3, 4, 5, 6, 7), nil},
		{"all alone", impl.Net{Knots: impl.NetKnots}, nil, nil},
		{"the last tie alone", netOf(8, 6, 7), tiesOf(6, 7), nil},
		{"all pairs of four", gridOf(4, math.MaxUint64).net(), tiesOf(0, 1, 2, 3), nil},
		{"all pairs of seven", gridOf(7, math.MaxUint64).net(), tiesOf(0, 1, 2, 3, 4, 5), nil},
		{"all pairs", fullNet(), tiesOf(0, 1, 2, 3, 4, 5, 6, 7), nil},
	} {
		if !impl.NetOk(c.net) {
			t.Fatalf("the test is wrong: %s", c.what)
		}
		if size := impl.PairSize(c.net); size != len(c.pairs) {
			t.Errorf("%s: PairSize: %d, not %d", c.what, size, len(c.pairs))
		}
		if list := impl.PairOf(c.net); !slices.Equal(list, c.pairs) {
			t.Errorf("%s: PairOf: %v, not %v", c.what, list, c.pairs)
		}
		if why := impl.PairWhy(c.net); !slices.Equal(why, c.why) {
			t.Errorf("%s: PairWhy: %v, not %v", c.what, why, c.why)
		}
		if !impl.PairOk(c.net, c.pairs) {
			t.Errorf("%s: PairOk %v: false", c.what, c.pairs)
		}
	}
}

// Ties that are pairs, or are not, each for one reason.
func TestTiesThatArePairsOrNot(t *testing.T) {
	// A ring of five, and a tie.
	n := netOf(7, 0, 1, 1, 2, 2, 3, 3, 4, 0, 4, 5, 6)
	star := sidesFilled(1).net()
	for _, c := range []struct {
		what string
		net  impl.Net
		list []impl.Tie
		want bool
	}{
		{"no pairs, of no knots", impl.Net{}, nil, true},
		{"no pairs, of one knot", impl.Net{Knots: 1}, nil, true},
		{"no pairs, none tied", impl.Net{Knots: impl.NetKnots}, nil, true},
		{"no pairs, an empty list", n, []impl.Tie{}, true},
		{"no pairs", n, nil, true},
		{"one, the first", n, tiesOf(0, 1), true},
		{"one, in the midst", n, tiesOf(2, 3), true},
		{"one, the last", n, tiesOf(5, 6), true},
		{"the only one", netOf(2, 0, 1), tiesOf(0, 1), true},
		{"two", n, tiesOf(0, 1, 2, 3), true},
		{"two, otherwise", n, tiesOf(0, 4, 1, 2), true},
		{"two, to which one can be added", n, tiesOf(1, 2, 5, 6), true},
		{"three", n, tiesOf(0, 1, 3, 4, 5, 6), true},
		{"three, otherwise", n, tiesOf(0, 4, 2, 3, 5, 6), true},
		{"four, of all pairs", fullNet(), tiesOf(0, 7, 1, 6, 2, 5, 3, 4), true},
		{"four, of all pairs, the B's ascending", fullNet(), tiesOf(0, 4, 1, 5, 2, 6, 3, 7), true},
		{"two out of order", n, tiesOf(2, 3, 0, 1), false},
		{"the last two out of order", n, tiesOf(0, 1, 5, 6, 2, 3), false},
		{"the first two out of order", n, tiesOf(2, 3, 0, 1, 5, 6), false},
		{"in order by B alone", fullNet(), tiesOf(3, 4, 2, 5, 1, 6, 0, 7), false},
		{"one twice", n, tiesOf(0, 1, 0, 1), false},
		{"one twice, of two knots", netOf(2, 0, 1), tiesOf(0, 1, 0, 1), false},
		{"the last twice", n, tiesOf(0, 1, 2, 3, 5, 6, 5, 6), false},
		{"one twice, apart", n, tiesOf(0, 1, 2, 3, 0, 1), false},
		{"two with an A in common", n, tiesOf(0, 1, 0, 4), false},
		{"two with a B in common", n, tiesOf(0, 4, 3, 4), false},
		{"two with a B that is an A", n, tiesOf(0, 1, 1, 2), false},
		{"two with a B that is an A, apart", n, tiesOf(0, 4, 1, 2, 2, 3), false},
		{"the first and the last with a knot in common", n, tiesOf(0, 4, 1, 2, 3, 4), false},
		{"two of a star", star, tiesOf(0, 3, 0, 6), false},
		{"one of a star", star, tiesOf(0, 6), true},
		{"all ties of a star", star, star.Ties, false},
		{"a ring of three", netOf(3, 0, 1, 1, 2, 0, 2), tiesOf(0, 1, 0, 2, 1, 2), false},
		{"one that is none of the net", n, tiesOf(0, 2), false},
		{"the last is none of the net", n, tiesOf(0, 1, 2, 3, 4, 5), false},
		{"the first is none of the net", n, tiesOf(0, 3, 1, 2), false},
		{"of a net without ties", impl.Net{Knots: 2}, tiesOf(0, 1), false},
		{"of a net without knots", impl.Net{}, tiesOf(0, 1), false},
		{"its knots the other way", n, tiesOf(1, 0), false},
		{"the last with its knots the other way", n, tiesOf(0, 1, 3, 2), false},
		{"the first with its knots the other way", n, tiesOf(1, 0, 2, 3), false},
		{"all with their knots the other way", n, tiesOf(1, 0, 3, 2, 6, 5), false},
		{"one, and again with its knots the other way", n, tiesOf(0, 1, 1, 0), false},
		{"a knot to itself", n, tiesOf(1, 1), false},
		{"one, and a knot to itself", n, tiesOf(0, 1, 2, 2), false},
		{"one that is nothing", n, make([]impl.Tie, 1), false},
		{"one, and one past the end", n, tiesOf(0, 1, 6, 7), false},
		{"one far past the end", n, tiesOf(0, 1, 2, math.MaxInt), false},
		{"one past the end by a power of two", n, tiesOf(0, 1<<32+1), false},
		{"one below 0", n, tiesOf(-1, 0), false},
		{"both below 0", n, tiesOf(-2, -1), false},
		{"one far below 0", n, tiesOf(math.MinInt, 0), false},
		{"one below 0, ahead of two", n, tiesOf(-1, 4, 0, 1, 2, 3), false},
		{"a great many", n, slices.Repeat(tiesOf(0, 1), 5000), false},
		{"all pairs, a great many times", fullNet(), slices.Repeat(fullNet().Ties, 1000), false},
	} {
		if !impl.NetOk(c.net) {
			t.Fatalf("the test is wrong: %s", c.what)
		}
		if impl.PairOk(c.net, c.list) != c.want {
			t.Errorf("%s: PairOk %v %v: %v", c.what, c.net, c.list, !c.want)
		}
	}
}

// PairOk of all short lists of ties, those that are none of any net among them, by the document's words.
func TestPairOkOfAllShortLists(t *testing.T) {
	t.Parallel()
	var ties []impl.Tie
	for a := -1; a <= 4; a++ {
		for b := -1; b <= 4; b++ {
			ties = append(ties, impl.Tie{A: a, B: b})
		}
	}
	for g := range allGrids(4) {
		n := g.net()
		expectPairOk(t, g, n, nil)
		for _, x := range ties {
			expectPairOk(t, g, n, []impl.Tie{x})
			for _, y := range ties {
				expectPairOk(t, g, n, []impl.Tie{x, y})
			}
		}
	}
}

// PairOk of all choices of ties of small nets, and of many of greater ones: those that share knots among them.
func TestPairOkOfAllChoicesOfTies(t *testing.T) {
	t.Parallel()
	r := numbers(92)
	for g := range pairGrids() {
		n := g.net()
		if len(n.Ties) <= 6 {
			for list := range subsets(n.Ties) {
				expectPairOk(t, g, n, list)
			}
			continue
		}
		for range 40 {
			list := shuffled(n.Ties, &r)[:r.below(5)]
			expectPairOk(t, g, n, list)
			slices.SortFunc(list, compareTies)
			expectPairOk(t, g, n, list)
		}
	}
}

// PairOk of pairs of which one is left out, put in, moved, turned about, or has a knot changed.
func TestPairOkOfListsNearPairs(t *testing.T) {
	t.Parallel()
	for _, g := range slices.Concat(pairShapes(), allShapes(), earShapes()) {
		n := g.net()
		told := impl.PairOf(n)
		lists := [][]impl.Tie{told, turned(told)}
		for at, tie := range told {
			less := without(told, at)
			lists = append(lists, less)
			for place := range told {
				lists = append(lists, slices.Insert(slices.Clone(less), place, tie))
				lists = append(lists, slices.Insert(slices.Clone(told), place, tie))
			}
			for _, k := range places() {
				for _, changed := range []impl.Tie{{A: k, B: tie.B}, {A: tie.A, B: k}, {A: tie.B, B: k}, {A: k, B: tie.A}} {
					lists = append(lists, slices.Insert(slices.Clone(less), at, changed))
				}
			}
		}
		for _, tie := range pairsOf(g.knots) {
			lists = append(lists, inserted(told, tie))
		}
		for _, list := range lists {
			expectPairOk(t, g, n, list)
		}
	}
}

func expectPairOk(t *testing.T, g grid, n impl.Net, list []impl.Tie) {
	t.Helper()
	if want := g.arePairs(list); impl.PairOk(n, list) != want {
		t.Fatalf("PairOk %v %v: %v", n, list, !want)
	}
}

// Of nets that are not ok, with what would be pairs of many of them if the fault were passed over.
func TestPairsOfNetsThatAreNotOk(t *testing.T) {
	for _, bad := range badPairNets() {
		if impl.NetOk(bad.net) {
			t.Fatalf("the test is wrong: %s", bad.name)
		}
		if size := impl.PairSize(bad.net); size != -1 {
			t.Errorf("PairSize, %s: %d", bad.name, size)
		}
		if list := impl.PairOf(bad.net); len(list) > 0 {
			t.Errorf("PairOf, %s: %v", bad.name, list)
		}
		if why := impl.PairWhy(bad.net); len(why) > 0 {
			t.Errorf("PairWhy, %s: %v", bad.name, why)
		}
		lists := [][]impl.Tie{nil, {}, bad.net.Ties, greedyPairs(bad.net.Ties), tiesOf(0, 1, 2, 3)}
		for _, tie := range bad.net.Ties[:min(len(bad.net.Ties), 30)] {
			lists = append(lists, []impl.Tie{tie}, []impl.Tie{tieOf(tie.A, tie.B)})
		}
		for _, list := range lists {
			if impl.PairOk(bad.net, list) {
				t.Errorf("PairOk, %s: %v", bad.name, list)
			}
		}
	}
}

func expectPairsApart(t *testing.T, n impl.Net) {
	t.Helper()
	arg, whole := roomy(n)
	before := slices.Clone(whole)
	size, list, why := impl.PairSize(arg), impl.PairOf(arg), impl.PairWhy(arg)
	wantList, wantWhy := slices.Clone(list), slices.Clone(why)
	expectSame := func(what string, n impl.Net) ([]impl.Tie, []int) {
		t.Helper()
		sizeAgain, listAgain, whyAgain := impl.PairSize(n), impl.PairOf(n), impl.PairWhy(n)
		if sizeAgain != size || !slices.Equal(listAgain, wantList) || !slices.Equal(whyAgain, wantWhy) {
			t.Fatalf("%v: asked %s it answers %d, %v and %v, not %d, %v and %v", n, what, sizeAgain, listAgain, whyAgain, size, wantList, wantWhy)
		}
		return listAgain, whyAgain
	}
	listAgain, whyAgain := expectSame("again", arg)
	if !slices.Equal(whole, before) {
		t.Fatalf("%v: an argument was changed", n)
	}
	expectTiesApart(t, "pairs", [][]impl.Tie{list, listAgain})
	expectListsApart(t, "knots that show it", [][]int{why, whyAgain})
	if !slices.Equal(whole, before) {
		t.Fatalf("%v: an answer shares memory with its argument", n)
	}
	// Nothing is kept: whatever was written into answers, all is as it was.
	expectSame("behind that", arg)
	// The net is looked at alone, not the room behind its ties.
	expectSame("by the room of its ties", impl.Net{Knots: n.Knots, Ties: slices.Clip(slices.Clone(n.Ties))})
}

func TestMemoryOfPairsIsApart(t *testing.T) {
	t.Parallel()
	for g := range pairGrids() {
		expectPairsApart(t, g.net())
	}
	for _, bad := range badPairNets() {
		expectPairsApart(t, bad.net)
	}
}

// Pairs that are asked about are not changed, nor what lies behind their end, and their room is not looked at.
func TestPairsThatAreAskedAboutAreNotChanged(t *testing.T) {
	lists := [][]impl.Tie{nil, tiesOf(0, 1), tiesOf(1, 0), tiesOf(0, 1, 2, 3), tiesOf(2, 3, 0, 1), tiesOf(0, 1, 1, 2), tiesOf(0, 1, 0, 1), tiesOf(0, 1, 2, 3, 6, 7), tiesOf(0, 7, 1, 6, 2, 5, 3, 4), tiesOf(5, 9), tiesOf(-1, 0), fullNet().Ties}
	for _, n := range []impl.Net{fullNet(), netOf(2, 0, 1), netOf(4, 0, 1, 1, 2, 2, 3), netOf(8, 0, 1, 2, 3, 6, 7), {}, {Knots: 1}, {Knots: 8}, {Knots: 99}, {Knots: -1}, {Knots: 4, Ties: tiesOf(2, 3, 0, 1)}} {
		for _, list := range lists {
			arg, whole := roomyTies(list)
			net, ties := roomy(n)
			before, tiesBefore := slices.Clone(whole), slices.Clone(ties)
			first := impl.PairOk(net, arg)
			if first != impl.PairOk(net, arg) {
				t.Errorf("%v: %v are pairs or not by how often it is asked", n, list)
			}
			if first != impl.PairOk(n, slices.Clip(slices.Clone(list))) {
				t.Errorf("%v: %v are pairs or not by their room", n, list)
			}
			if !slices.Equal(whole, before) || !slices.Equal(ties, tiesBefore) {
				t.Errorf("%v: asked about %v, an argument was changed", n, list)
			}
		}
	}
	// What lies behind the end of a list, in its room, is none of it: here it would be a knot twice.
	whole := tiesOf(0, 1, 2, 3, 3, 4)
	if n := netOf(5, 0, 1, 2, 3, 3, 4); !impl.PairOk(n, whole[:2]) || !impl.PairOk(n, whole[:0]) || impl.PairOk(n, whole) {
		t.Error("PairOk looks behind the end of the pairs")
	}
}

// A net and pairs that are one list: neither is changed.
func TestPairsThatAreTheNetsOwnList(t *testing.T) {
	for _, g := range pairShapes() {
		n := g.net()
		before := slices.Clone(n.Ties)
		for end := range n.Ties {
			expectPairOk(t, g, n, n.Ties[:end])
			expectPairOk(t, g, n, n.Ties[end:])
		}
		if !slices.Equal(n.Ties, before) {
			t.Fatalf("PairOk changed the ties of %v", before)
		}
	}
}

// What is asked in between changes nothing: nothing is kept between two calls.
func TestPairsAreThoseOfTheNetThatIsAsked(t *testing.T) {
	t.Parallel()
	shapes := slices.Concat(pairShapes(), earShapes())
	for _, g := range shapes {
		for _, other := range shapes {
			impl.PairSize(other.net())
			impl.PairOk(other.net(), impl.PairOf(other.net()))
			impl.PairWhy(other.net())
			expectPairs(t, g)
		}
	}
}
