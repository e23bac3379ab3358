package tests

import (
	"math"
	"slices"
	"testing"

	"loop.example/osier/impl"
)

// distance is how many ties the way that is found has; none is -1.
func distance(n impl.Net, a, b int) int {
	way, _ := impl.WayFind(n, a, b)
	return len(way) - 1
}

// netOf is a net of pairs of numbers, each a tie, in order.
func netOf(knots int, ends ...int) impl.Net {
	g := grid{knots: knots}
	for i := 0; i < len(ends); i += 2 {
		g = g.set(ends[i], ends[i+1], true)
	}
	return g.net()
}

func fullNet() impl.Net {
	return gridOf(impl.NetKnots, 1<<63-1).net()
}

// P10.
func TestWhereOneComesToOneComesFrom(t *testing.T) {
	for g := range grids() {
		n := g.net()
		for a := range g.knots {
			reach := impl.WayReach(n, a)
			if len(reach) != g.knots || !reach[a] {
				t.Fatalf("%v from %d: %v", n, a, reach)
			}
			for b := range g.knots {
				if reach[b] != impl.WayReach(n, b)[a] {
					t.Fatalf("%v: from %d to %d, but not back", n, a, b)
				}
			}
		}
	}
}

// P11.
func TestOfTwoThatAreTiedOneComesToBothOrNone(t *testing.T) {
	for g := range grids() {
		n := g.net()
		for from := range g.knots {
			reach := impl.WayReach(n, from)
			for _, tie := range n.Ties {
				if reach[tie.A] != reach[tie.B] {
					t.Fatalf("%v from %d: %v of %v", n, from, reach, tie)
				}
			}
		}
	}
}

// Reach and parts are those of the tests' own way, of all nets of five knots too.
func TestReachAndParts(t *testing.T) {
	check := func(g grid) {
		n, parts := g.net(), g.parts()
		if got := impl.WayParts(n); !slices.Equal(got, parts) {
			t.Fatalf("WayParts %v: %v, not %v", n, got, parts)
		}
		if got := impl.WayCount(n); got != g.partCount() {
			t.Fatalf("WayCount %v: %d, not %d", n, got, g.partCount())
		}
		for a := range g.knots {
			want := make([]bool, g.knots)
			for b := range want {
				want[b] = parts[a] == parts[b]
			}
			if got := impl.WayReach(n, a); !slices.Equal(got, want) {
				t.Fatalf("WayReach %v %d: %v, not %v", n, a, got, want)
			}
		}
	}
	for g := range allGrids(5) {
		check(g)
	}
	for g := range grids() {
		check(g)
	}
}

// P12.
func TestOfOnePartJustIfAWayLeadsThere(t *testing.T) {
	t.Parallel()
	for g := range grids() {
		n := g.net()
		parts := impl.WayParts(n)
		if len(parts) != g.knots {
			t.Fatalf("%v: %v", n, parts)
		}
		for a := range g.knots {
			least := -1
			for b := range g.knots {
				_, found := impl.WayFind(n, a, b)
				leads := len(impl.WayAll(n, a, b)) > 0
				if same := parts[a] == parts[b]; same != found || same != leads || same != impl.WayReach(n, a)[b] {
					t.Fatalf("%v: %d and %d, parts %v, found %v, all %v", n, a, b, parts, found, leads)
				}
				if least < 0 && leads {
					least = b
				}
			}
			if parts[a] != least {
				t.Fatalf("%v: the part of %d is %d, not %d", n, a, parts[a], least)
			}
		}
	}
}

// P13.
func TestAsManyPartsAsLeastKnots(t *testing.T) {
	for g := range grids() {
		n := g.net()
		leasts := 0
		for k, p := range impl.WayParts(n) {
			if k == p {
				leasts++
			}
		}
		count := impl.WayCount(n)
		if count != leasts || count < n.Knots-len(n.Ties) {
			t.Fatalf("%v: %d parts, %d least knots", n, count, leasts)
		}
	}
}

// P14.
func TestATieMoreOnePartLess(t *testing.T) {
	for g := range grids() {
		n := g.net()
		parts, count := impl.WayParts(n), impl.WayCount(n)
		for _, p := range pairsOf(g.knots) {
			more, ok := impl.NetAdd(n, p.A, p.B)
			if !ok {
				continue
			}
			want := count
			if parts[p.A] != parts[p.B] {
				want--
			}
			if got := impl.WayCount(more); got != want {
				t.Fatalf("%v and %v: %d parts, not %d", n, p, got, want)
			}
		}
	}
}

// P15.
func TestATieLessOnePartMore(t *testing.T) {
	for g := range grids() {
		n := g.net()
		count := impl.WayCount(n)
		for _, p := range n.Ties {
			less, _ := impl.NetCut(n, p.A, p.B)
			parts, want := impl.WayParts(less), count
			if parts[p.A] != parts[p.B] {
				want++
			}
			if got := impl.WayCount(less); got != want {
				t.Fatalf("%v without %v: %d parts, not %d", n, p, got, want)
			}
		}
	}
}

// P16.
func TestAWayTurnedAboutAndItsPieces(t *testing.T) {
	rows := newRowTable()
	for g := range grids() {
		if g.knots > 6 {
			continue
		}
		n := g.net()
		for _, row := range rows[g.knots] {
			if !impl.WayOk(n, row) {
				continue
			}
			if !impl.WayOk(n, turned(row)) {
				t.Fatalf("%v: %v, but not turned about", n, row)
			}
			for i := range row {
				for j := i + 1; j <= len(row); j++ {
					if !impl.WayOk(n, row[i:j]) {
						t.Fatalf("%v: %v, but not %v", n, row, row[i:j])
					}
				}
			}
		}
	}
}

// Of all rows of three numbers or less, wrong ones too, and of all rows of knots, just those are ways that the document's words let be.
func TestWayOkOfAllRows(t *testing.T) {
	t.Parallel()
	rows := newRowTable()
	for g := range grids() {
		n := g.net()
		for _, row := range rows[g.knots] {
			if impl.WayOk(n, row) != g.isWay(row) {
				t.Fatalf("WayOk %v %v: %v", n, row, !g.isWay(row))
			}
		}
		if g.knots > 4 {
			continue
		}
		for a := -1; a <= g.knots; a++ {
			for b := -1; b <= g.knots; b++ {
				for c := -1; c <= g.knots; c++ {
					for _, row := range [][]int{{a}, {a, b}, {a, b, c}, {a, b, c, a}, {a, b, a, c, b}} {
						if impl.WayOk(n, row) != g.isWay(row) {
							t.Fatalf("WayOk %v %v: %v", n, row, !g.isWay(row))
						}
					}
				}
			}
		}
	}
}

func TestRowsThatAreNoWay(t *testing.T) {
	n := fullNet()
	for _, row := range [][]int{
		nil, {}, {-1}, {impl.NetKnots}, {math.MinInt}, {math.MaxInt}, {64}, {0, 0}, {0, 1, 0}, {0, 1, 2, 1}, {7, 7},
		{0, -1}, {-1, 0}, {0, impl.NetKnots}, {impl.NetKnots, 0}, {0, 1, math.MinInt}, {0, 1, math.MaxInt}, {1, 1 << 32}, {0, 1 << 32},
		{0, 1, 2, 3, 4, 5, 6, 7, 0}, {0, 1, 2, 3, 4, 5, 6, 7, 8}, {0, 1, 2, 3, 4, 5, 6, 7, 7}, {0, 1, 2, 3, 4, 5, 6, 7, -1},
		slices.Repeat([]int{0, 1}, 1000), slices.Repeat([]int{0, 1, 2, 3, 4, 5, 6, 7}, 1000), make([]int, 5000),
	} {
		if impl.WayOk(n, row) {
			t.Errorf("WayOk %v", row)
		}
	}
	for _, row := range [][]int{{0}, {7}, {7, 0}, {0, 1, 2, 3, 4, 5, 6, 7}, {7, 5, 3, 1, 0, 2, 4, 6}} {
		if !impl.WayOk(n, row) {
			t.Errorf("not WayOk %v", row)
		}
	}
	if impl.WayOk(impl.Net{Knots: 3}, []int{0, 1}) || impl.WayOk(impl.Net{Knots: 3}, []int{3}) || !impl.WayOk(impl.Net{Knots: 3}, []int{2}) {
		t.Error("knots alone")
	}
	if impl.WayOk(impl.Net{}, nil) || impl.WayOk(impl.Net{}, []int{0}) {
		t.Error("no knots")
	}
}

// P17.
func TestAWayThatIsFoundLeadsThere(t *testing.T) {
	for g := range grids() {
		n := g.net()
		parts := impl.WayParts(n)
		for a := range g.knots {
			for b := range g.knots {
				way, ok := impl.WayFind(n, a, b)
				if ok != (parts[a] == parts[b]) || !ok && len(way) > 0 {
					t.Fatalf("WayFind %v %d %d: %v %v", n, a, b, way, ok)
				}
				if ok && (!impl.WayOk(n, way) || way[0] != a || way[len(way)-1] != b) {
					t.Fatalf("WayFind %v %d %d: %v", n, a, b, way)
				}
			}
		}
	}
}

// P18.
func TestTheWayThatIsFoundIsTheFirstOfAll(t *testing.T) {
	t.Parallel()
	for g := range grids() {
		n := g.net()
		for a := range g.knots {
			for b := range g.knots {
				way, ok := impl.WayFind(n, a, b)
				all := impl.WayAll(n, a, b)
				if ok != (len(all) > 0) || ok && !slices.Equal(way, all[0]) {
					t.Fatalf("WayFind %v %d %d: %v %v, of %v", n, a, b, way, ok, all)
				}
			}
		}
	}
}

// P19.
func TestAllWaysAreSuchInOrderEachOnce(t *testing.T) {
	t.Parallel()
	for g := range grids() {
		n := g.net()
		for a := range g.knots {
			for b := range g.knots {
				all := impl.WayAll(n, a, b)
				for i, way := range all {
					if !impl.WayOk(n, way) || way[0] != a || way[len(way)-1] != b {
						t.Fatalf("WayAll %v %d %d tells %v", n, a, b, way)
					}
					if i > 0 && !standsAhead(all[i-1], way) {
						t.Fatalf("WayAll %v %d %d tells %v ahead of %v", n, a, b, all[i-1], way)
					}
				}
			}
		}
	}
}

// P20, and that there are no others: all rows of knots are looked at.
func TestEachWayIsAmongAllBetweenItsEnds(t *testing.T) {
	t.Parallel()
	rows := newRowTable()
	check := func(g grid) {
		n, ways := g.net(), g.ways(rows)
		for a := range g.knots {
			for b := range g.knots {
				want := ways[a][b]
				if got := impl.WayAll(n, a, b); !sameLists(got, want) {
					t.Fatalf("WayAll %v %d %d: %v, not %v", n, a, b, got, want)
				}
				way, ok := impl.WayFind(n, a, b)
				if ok != (len(want) > 0) || ok && !slices.Equal(way, want[0]) {
					t.Fatalf("WayFind %v %d %d: %v %v, not the first of %v", n, a, b, way, ok, want)
				}
			}
		}
	}
	for g := range allGrids(5) {
		check(g)
	}
	for g := range grids() {
		check(g)
	}
}

// P21.
func TestWithATieMoreNoWayGetsLongerAndNoneLost(t *testing.T) {
	for g := range grids() {
		if g.knots > 6 {
			continue
		}
		n := g.net()
		for _, p := range pairsOf(g.knots) {
			more, ok := impl.NetAdd(n, p.A, p.B)
			if !ok {
				continue
			}
			for a := range g.knots {
				for b := range g.knots {
					before, after := impl.WayAll(n, a, b), impl.WayAll(more, a, b)
					at := 0
					for _, way := range before {
						for at < len(after) && !slices.Equal(after[at], way) {
							at++
						}
						if at == len(after) {
							t.Fatalf("%v and %v: %v is lost", n, p, way)
						}
					}
					if d := distance(n, a, b); d >= 0 && (distance(more, a, b) < 0 || distance(more, a, b) > d) {
						t.Fatalf("%v and %v: from %d to %d it is further", n, p, a, b)
					}
				}
			}
		}
	}
}

// P22, P24.
func TestAWayByAThirdKnotIsNotShorter(t *testing.T) {
	for g := range grids() {
		n := g.net()
		var far [impl.NetKnots][impl.NetKnots]int
		for a := range g.knots {
			for b := range g.knots {
				far[a][b] = distance(n, a, b)
			}
		}
		for a := range g.knots {
			for b := range g.knots {
				for c := range g.knots {
					if far[a][c] >= 0 && far[c][b] >= 0 && (far[a][b] < 0 || far[a][b] > far[a][c]+far[c][b]) {
						t.Fatalf("%v: from %d to %d it is shorter by %d", n, a, b, c)
					}
					if !g.has(b, c) {
						continue
					}
					if (far[a][b] < 0) != (far[a][c] < 0) || far[a][b]-far[a][c] > 1 || far[a][c]-far[a][b] > 1 {
						t.Fatalf("%v: from %d it is %d ties to %d, and %d to %d", n, a, far[a][b], b, far[a][c], c)
					}
				}
			}
		}
	}
}

// P23: of the first way each piece is the first one, and so its end is.
func TestAPieceOfTheWayThatIsFound(t *testing.T) {
	for g := range grids() {
		n := g.net()
		for a := range g.knots {
			for b := range g.knots {
				way, _ := impl.WayFind(n, a, b)
				for i := range way {
					for j := i; j < len(way); j++ {
						piece, ok := impl.WayFind(n, way[i], way[j])
						if !ok || !slices.Equal(piece, way[i:j+1]) {
							t.Fatalf("%v: %v is found, but from %d to %d %v", n, way, way[i], way[j], piece)
						}
					}
				}
			}
		}
	}
}

// The first of several that are as short; a short one ahead of one whose knots are less.
func TestTheFirstOfSeveral(t *testing.T) {
	for _, c := range []struct {
		net  impl.Net
		a, b int
		all  [][]int
	}{
		{netOf(4, 0, 1, 1, 3, 0, 2, 2, 3), 0, 3, [][]int{{0, 1, 3}, {0, 2, 3}}},
		{netOf(4, 0, 1, 1, 3, 0, 2, 2, 3), 3, 0, [][]int{{3, 1, 0}, {3, 2, 0}}},
		{netOf(4, 0, 1, 1, 2, 2, 3, 3, 0), 0, 3, [][]int{{0, 3}, {0, 1, 2, 3}}},
		{netOf(5, 0, 1, 1, 2, 2, 4, 0, 3, 3, 4), 0, 4, [][]int{{0, 3, 4}, {0, 1, 2, 4}}},
		{netOf(6, 0, 1, 0, 2, 1, 4, 2, 3, 3, 5, 4, 5), 0, 5, [][]int{{0, 1, 4, 5}, {0, 2, 3, 5}}},
		{netOf(6, 0, 1, 0, 2, 1, 4, 2, 3, 3, 5, 4, 5), 5, 0, [][]int{{5, 3, 2, 0}, {5, 4, 1, 0}}},
		{netOf(6, 0, 1, 1, 2, 2, 3, 3, 0, 4, 5), 1, 0, [][]int{{1, 0}, {1, 2, 3, 0}}},
		{netOf(6, 0, 1, 1, 2, 2, 3, 3, 0, 4, 5), 4, 4, [][]int{{4}}},
		{netOf(6, 0, 1, 1, 2, 2, 3, 3, 0, 4, 5), 0, 5, nil},
	} {
		if got := impl.WayAll(c.net, c.a, c.b); !sameLists(got, c.all) {
			t.Errorf("WayAll %v %d %d: %v, not %v", c.net, c.a, c.b, got, c.all)
		}
		way, ok := impl.WayFind(c.net, c.a, c.b)
		if ok != (len(c.all) > 0) || ok && !slices.Equal(way, c.all[0]) || !ok && len(way) > 0 {
			t.Errorf("WayFind %v %d %d: %v %v, not of %v", c.net, c.a, c.b, way, ok, c.all)
		}
	}
}

func TestWaysOfTheEdges(t *testing.T) {
	none := impl.Net{}
	if impl.WayCount(none) != 0 || len(impl.WayParts(none)) != 0 || len(impl.WayReach(none, 0)) != 0 || len(impl.WayAll(none, 0, 0)) != 0 {
		t.Error("no knots")
	}
	one := impl.Net{Knots: 1}
	if impl.WayCount(one) != 1 || !slices.Equal(impl.WayParts(one), []int{0}) || !slices.Equal(impl.WayReach(one, 0), []bool{true}) || !sameLists(impl.WayAll(one, 0, 0), [][]int{{0}}) {
		t.Error("one knot")
	}
	alone := impl.Net{Knots: impl.NetKnots}
	if impl.WayCount(alone) != impl.NetKnots || !slices.Equal(impl.WayParts(alone), []int{0, 1, 2, 3, 4, 5, 6, 7}) {
		t.Error("knots alone")
	}
	full := fullNet()
	if impl.WayCount(full) != 1 || !slices.Equal(impl.WayParts(full), make([]int, impl.NetKnots)) {
		t.Error("all pairs tied")
	}
	for a := range impl.NetKnots {
		for b := range impl.NetKnots {
			// Between two of eight: all rows of the six others.
			count := 1 + 6 + 6*5 + 6*5*4 + 6*5*4*3 + 6*5*4*3*2 + 6*5*4*3*2
			if a == b {
				count = 1
			}
			if got := len(impl.WayAll(full, a, b)); got != count {
				t.Errorf("all pairs tied: %d ways from %d to %d, not %d", got, a, b, count)
			}
		}
	}
	line := netOf(8, 0, 7, 7, 1, 1, 6, 6, 2, 2, 5, 5, 3, 3, 4)
	if all := impl.WayAll(line, 4, 0); !sameLists(all, [][]int{{4, 3, 5, 2, 6, 1, 7, 0}}) {
		t.Error("a line", all)
	}
}

// A number that is no knot.
func TestWaysOfNoKnot(t *testing.T) {
	for g := range grids() {
		n := g.net()
		for _, a := range places() {
			if reach := impl.WayReach(n, a); !g.isKnot(a) && len(reach) != 0 {
				t.Fatalf("WayReach %v %d: %v", n, a, reach)
			}
			if impl.WayOk(n, []int{a}) != g.isKnot(a) {
				t.Fatalf("WayOk %v %d", n, a)
			}
			for _, b := range places() {
				if g.isKnot(a) && g.isKnot(b) {
					continue
				}
				if way, ok := impl.WayFind(n, a, b); ok || len(way) != 0 {
					t.Fatalf("WayFind %v %d %d: %v %v", n, a, b, way, ok)
				}
				if all := impl.WayAll(n, a, b); len(all) != 0 {
					t.Fatalf("WayAll %v %d %d: %v", n, a, b, all)
				}
				if impl.WayOk(n, []int{a, b}) {
					t.Fatalf("WayOk %v %d %d", n, a, b)
				}
			}
		}
	}
}

// Each function, of a net that is not ok.
func TestWaysOfNetsThatAreNotOk(t *testing.T) {
	for _, bad := range badNets() {
		if parts := impl.WayParts(bad.net); len(parts) != 0 {
			t.Errorf("WayParts, %s: %v", bad.name, parts)
		}
		if count := impl.WayCount(bad.net); count != -1 {
			t.Errorf("WayCount, %s: %d", bad.name, count)
		}
		if impl.WayOk(bad.net, nil) {
			t.Errorf("WayOk of nothing, %s", bad.name)
		}
		for _, a := range places() {
			if reach := impl.WayReach(bad.net, a); len(reach) != 0 {
				t.Errorf("WayReach %d, %s: %v", a, bad.name, reach)
			}
			if impl.WayOk(bad.net, []int{a}) {
				t.Errorf("WayOk %d, %s", a, bad.name)
			}
			for _, b := range places() {
				if impl.WayOk(bad.net, []int{a, b}) {
					t.Errorf("WayOk %d %d, %s", a, b, bad.name)
				}
				if way, ok := impl.WayFind(bad.net, a, b); ok || len(way) != 0 {
					t.Errorf("WayFind %d %d, %s: %v %v", a, b, bad.name, way, ok)
				}
				if all := impl.WayAll(bad.net, a, b); len(all) != 0 {
					t.Errorf("WayAll %d %d, %s: %v", a, b, bad.name, all)
				}
			}
		}
	}
}

// wayAnswers is all lists of numbers that the functions answer of a net, and those of bools.
func wayAnswers(n impl.Net) ([][]int, [][]bool) {
	lists := [][]int{impl.WayParts(n)}
	var reach [][]bool
	impl.WayCount(n)
	for a := -1; a <= n.Knots && a <= impl.NetKnots; a++ {
		reach = append(reach, impl.WayReach(n, a))
		for b := -1; b <= n.Knots && b <= impl.NetKnots; b++ {
			way, _ := impl.WayFind(n, a, b)
			lists = append(lists, way)
			lists = append(lists, impl.WayAll(n, a, b)...)
		}
	}
	return lists, reach
}

// expectReachApart fails if two of these lists share memory, spare room included.
func expectReachApart(t *testing.T, n impl.Net, reach [][]bool) {
	t.Helper()
	for _, l := range reach {
		clear(l[:cap(l)])
	}
	for i, l := range reach {
		for j := range l[:cap(l)] {
			l[:cap(l)][j] = true
		}
		for j := i + 1; j < len(reach); j++ {
			if slices.Contains(reach[j][:cap(reach[j])], true) {
				t.Fatalf("%v: WayReach's answers share memory", n)
			}
		}
	}
}

func expectWaysApart(t *testing.T, n impl.Net) {
	t.Helper()
	arg, whole := roomy(n)
	before := slices.Clone(whole)
	lists, reach := wayAnswers(arg)
	if !slices.Equal(whole, before) {
		t.Fatalf("%v: an argument was changed", n)
	}
	want := cloneLists(lists)
	wantReach := make([][]bool, len(reach))
	for i := range reach {
		wantReach[i] = slices.Clone(reach[i])
	}
	expectListsApart(t, "ways", lists)
	expectReachApart(t, n, reach)
	// Nothing is kept: asked again, all is as it was.
	lists, reach = wayAnswers(arg)
	if !sameLists(lists, want) || !slices.EqualFunc(reach, wantReach, slices.Equal[[]bool]) || !slices.Equal(whole, before) {
		t.Fatalf("%v: asked again it answers other things", n)
	}
}

func TestMemoryOfWaysIsApart(t *testing.T) {
	for g := range grids() {
		if g.knots <= 6 || len(g.net().Ties) < 12 {
			expectWaysApart(t, g.net())
		}
	}
	expectWaysApart(t, fullNet())
	for _, bad := range badNets() {
		expectWaysApart(t, bad.net)
	}
}

// A way that is asked about is not changed, nor what lies behind its end, and its room is not looked at.
func TestAWayThatIsAskedAboutIsNotChanged(t *testing.T) {
	for _, n := range []impl.Net{fullNet(), netOf(4, 0, 1, 1, 2), {}, {Knots: 99}} {
		for _, row := range [][]int{{}, {0}, {0, 1}, {2, 1, 0}, {0, 1, 0}, {0, 3}, {9}, {-1, 0}, {0, 1, 2, 3, 4, 5, 6, 7}, {0, 1, 2, 3, 4, 5, 6, 7, 0}} {
			arg, whole := roomyRow(row)
			before := slices.Clone(whole)
			net, ties := roomy(n)
			tiesBefore := slices.Clone(ties)
			if impl.WayOk(net, arg) != impl.WayOk(n, slices.Clip(slices.Clone(row))) {
				t.Errorf("%v: %v is a way or not by its room", n, row)
			}
			if !slices.Equal(whole, before) || !slices.Equal(ties, tiesBefore) {
				t.Errorf("%v: asked about %v, an argument was changed", n, row)
			}
		}
	}
}
