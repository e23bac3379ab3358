package tests

import (
	"fmt"
	"regexp"
	"slices"
	"strings"
	"testing"

	"loop.example/osier/impl"
)

func TestNetOkOfNetsThatAre(t *testing.T) {
	for g := range grids() {
		if n := g.net(); !impl.NetOk(n) {
			t.Fatal(n)
		}
	}
	if !impl.NetOk(impl.Net{}) || !impl.NetOk(impl.Net{Ties: []impl.Tie{}}) || !impl.NetOk(impl.Net{Knots: impl.NetKnots}) {
		t.Error("nets without ties")
	}
}

// Of all short rows of ties, wrong ones too, just those are ok that the document's words let be.
func TestNetOkOfAllShortRows(t *testing.T) {
	const knots = 3
	var rows []impl.Tie
	for a := -1; a <= knots; a++ {
		for b := -1; b <= knots; b++ {
			rows = append(rows, impl.Tie{A: a, B: b})
		}
	}
	good := func(t impl.Tie) bool { return t.A >= 0 && t.A < t.B && t.B < knots }
	for _, x := range rows {
		if got := impl.NetOk(impl.Net{Knots: knots, Ties: []impl.Tie{x}}); got != good(x) {
			t.Error(x, got)
		}
		for _, y := range rows {
			inOrder := x.A < y.A || x.A == y.A && x.B < y.B
			if got := impl.NetOk(impl.Net{Knots: knots, Ties: []impl.Tie{x, y}}); got != (good(x) && good(y) && inOrder) {
				t.Error(x, y, got)
			}
		}
	}
}

// Each function, of a net that is not ok.
func TestNetsThatAreNotOk(t *testing.T) {
	for _, bad := range badNets() {
		if impl.NetOk(bad.net) {
			t.Errorf("NetOk, %s", bad.name)
		}
		if text := impl.NetWrite(bad.net); text != "" {
			t.Errorf("NetWrite, %s: %q", bad.name, text)
		}
		for _, a := range places() {
			if x := impl.NetWithout(bad.net, a); !isNothing(x) {
				t.Errorf("NetWithout %d, %s: %v", a, bad.name, x)
			}
			for _, b := range places() {
				if impl.NetHas(bad.net, a, b) {
					t.Errorf("NetHas %d %d, %s", a, b, bad.name)
				}
				x, ok := impl.NetAdd(bad.net, a, b)
				expectNone(t, "NetAdd, "+bad.name, x, ok)
				x, ok = impl.NetCut(bad.net, a, b)
				expectNone(t, "NetCut, "+bad.name, x, ok)
			}
		}
	}
}

// P1.
func TestNetIsReadBackFromItsText(t *testing.T) {
	for g := range grids() {
		text := impl.NetWrite(g.net())
		if text != g.text() {
			t.Fatalf("%q, not %q", text, g.text())
		}
		x, ok := impl.NetRead(text)
		expect(t, text, x, ok, g)
	}
	for g := range allGrids(5) {
		x, ok := impl.NetRead(impl.NetWrite(g.net()))
		expect(t, g.text(), x, ok, g)
	}
}

var lines = regexp.MustCompile(`\Aknots [0-9]\n(tie [0-9] [0-9]\n)*\z`)

// isText tells of any bytes whether they are the text of a net, by a way of its own.
func isText(text string) bool {
	if !lines.MatchString(text) || len(text) > impl.NetText {
		return false
	}
	n := impl.Net{Knots: int(text[6] - '0')}
	last := ""
	for _, line := range strings.Split(strings.TrimSuffix(text, "\n"), "\n")[1:] {
		a, b := int(line[4]-'0'), int(line[6]-'0')
		if a >= b || b >= n.Knots || line <= last {
			return false
		}
		last = line
	}
	return n.Knots <= impl.NetKnots
}

// expectRead fails if a text is read that is none, or is not that which is written again (P2).
func expectRead(t *testing.T, text string) {
	t.Helper()
	x, ok := impl.NetRead(text)
	if !isText(text) {
		expectNone(t, fmt.Sprintf("NetRead %q", text), x, ok)
		return
	}
	if !ok || !impl.NetOk(x) || impl.NetWrite(x) != text {
		t.Fatalf("NetRead %q: %v %v", text, x, ok)
	}
}

// P2: texts that are a byte away from one.
func TestNetHasJustOneTextNearby(t *testing.T) {
	other := " \n\r\t0123456789-+tieknots\x00\xff"
	near := func(text string) {
		for i := 0; i <= len(text); i++ {
			expectRead(t, text[:i])
			expectRead(t, text[i:])
			expectRead(t, text[:i]+text[:i])
			for _, c := range []byte(other) {
				expectRead(t, text[:i]+string([]byte{c})+text[i:])
				if i < len(text) {
					expectRead(t, text[:i]+string([]byte{c})+text[i+1:])
				}
			}
			if i < len(text) {
				expectRead(t, text[:i]+text[i+1:])
			}
			if i+1 < len(text) {
				expectRead(t, text[:i]+text[i+1:i+2]+text[i:i+1]+text[i+2:])
			}
		}
	}
	for g := range allGrids(4) {
		near(g.text())
	}
	for k := 5; k <= impl.NetKnots; k++ {
		near(gridOf(k, 1<<63-1).text())
		near(gridOf(k, 0x5a5a5a5a).text())
	}
}

// P2: lines in any order, any number of times.
func TestNetHasJustOneTextOfLines(t *testing.T) {
	rows := []string{"knots 3\n", "knots 2\n", "tie 0 1\n", "tie 0 2\n", "tie 1 2\n", "tie 1 0\n", "tie 1 1\n", "tie 2 3\n", "\n", ""}
	for _, a := range rows {
		for _, b := range rows {
			for _, c := range rows {
				for _, d := range rows {
					expectRead(t, a+b+c+d)
				}
			}
		}
	}
}

// P2: what the document names.
func TestTextsThatAreNoNet(t *testing.T) {
	for _, text := range []string{
		"", "\n", " ", "knots", "knots ", "knots \n", "knots 2", "knots2\n", "knots  2\n", " knots 2\n", "knots 2 \n", "knots 2\n\n", "\nknots 2\n",
		"knots 02\n", "knots 00\n", "knots +2\n", "knots -0\n", "knots -1\n", "knots 2.0\n", "knots 0x2\n", "knots 2_\n", "knots two\n", "Knots 2\n", "KNOTS 2\n",
		"knots 9\n", "knots 10\n", "knots 80\n", "knots 88\n", "knots 18446744073709551618\n", "knots 99999999999999999999999999\n", "knots 4294967298\n",
		"knots 2\r\n", "knots\t2\n", "knots 2\nknots 2\n", "knots ٢\n", "knots 2\x00\n", "knots 2\n\x00", "\ufeffknots 2\n", "knots 2\xff\n",
		"tie 0 1\n", "tie 0 1\nknots 2\n", "knots 2\ntie 0 1", "knots 2\ntie 0\n", "knots 2\ntie 0 \n", "knots 2\ntie\n", "knots 2\ntie 0 1 \n",
		"knots 2\ntie  0 1\n", "knots 2\ntie 0  1\n", "knots 2\n tie 0 1\n", "knots 2\ntie 0 1\n\n", "knots 2\n\ntie 0 1\n", "knots 2\ntie 0 1\n ",
		"knots 2\ntie 00 1\n", "knots 2\ntie 0 01\n", "knots 2\ntie +0 1\n", "knots 2\ntie -0 1\n", "knots 2\ntie 0 -1\n", "knots 2\ntie -1 1\n",
		"knots 2\ntie 1 0\n", "knots 2\ntie 1 1\n", "knots 2\ntie 0 0\n", "knots 2\ntie 0 2\n", "knots 2\ntie 2 3\n", "knots 2\ntie 0 1\ntie 0 1\n",
		"knots 2\ntie 0 18446744073709551617\n", "knots 2\ntie 0 4294967297\n", "knots 2\ntie 0 257\n", "knots 2\ntie 0 1 2\n", "knots 2\ntie 01\n", "knots 2tie 0 1\n",
		"knots 3\ntie 1 2\ntie 0 1\n", "knots 3\ntie 0 2\ntie 0 1\n", "knots 3\ntie 0 1\ntie 1 2\ntie 0 2\n", "knots 0\ntie 0 1\n", "knots 1\ntie 0 1\n",
		"knots 8\ntie 0 8\n", "knots 8\ntie 7 8\n", "knots 9\ntie 0 1\n", "knots 2\ntie 0 1\nx", "knots 2\ntie 0 1\nend\n", "knots 2\ntie 0 1tie 0 1\n",
	} {
		if isText(text) {
			t.Fatalf("the test is wrong: %q", text)
		}
		expectRead(t, text)
	}
}

func TestTextsOfTheEdges(t *testing.T) {
	for _, text := range []string{"knots 0\n", "knots 1\n", "knots 8\n", "knots 2\ntie 0 1\n", "knots 8\ntie 6 7\n", gridOf(impl.NetKnots, 1<<63-1).text()} {
		if !isText(text) {
			t.Fatalf("the test is wrong: %q", text)
		}
		expectRead(t, text)
	}
}

// No net's text is as long as NetText, so all of these are none.
func TestLongTexts(t *testing.T) {
	full := gridOf(impl.NetKnots, 1<<63-1).text()
	for _, size := range []int{impl.NetText - 1, impl.NetText, impl.NetText + 1, 100 * impl.NetText} {
		for _, text := range []string{
			full + strings.Repeat("tie 6 7\n", size),
			full + strings.Repeat("\n", size),
			full + strings.Repeat(" ", size),
			"knots 8\n" + strings.Repeat("tie 0 1\n", size),
			"knots " + strings.Repeat("8", size),
			strings.Repeat(full, size),
		} {
			expectRead(t, text[:size])
			expectRead(t, text[:size-1]+"\n")
		}
		expectRead(t, "knots "+strings.Repeat("0", size-8)+"8\n")
		expectRead(t, "knots "+strings.Repeat("9", size-7)+"\n")
		expectRead(t, "knots 8\ntie 0 "+strings.Repeat("0", size-16)+"1\n")
	}
}

// Any bytes at all: all short ones of some letters, and long rows of words.
func TestAnyBytes(t *testing.T) {
	for a := range 256 {
		for b := range 256 {
			expectRead(t, string([]byte{byte(a), byte(b)}))
			expectRead(t, "knots "+string([]byte{byte(a), byte(b)}))
			expectRead(t, "knots 3\ntie "+string([]byte{byte(a)})+" "+string([]byte{byte(b)})+"\n")
		}
	}
	words := []string{"knots", "tie", " ", " ", "\n", "\n", "0", "1", "2", "7", "8", "9", "-", "+", "\x00", "\xff", "knots 8\n", "tie 0 1\n", "tie 2 3\n", "é"}
	r := numbers(2)
	for range 20000 {
		text := ""
		for range r.below(12) {
			text += words[r.below(len(words))]
		}
		expectRead(t, text)
		expectRead(t, "knots 4\n"+text)
	}
}

// P3.
func TestTiedEitherWay(t *testing.T) {
	for g := range grids() {
		n := g.net()
		for _, a := range places() {
			if impl.NetHas(n, a, a) {
				t.Fatalf("%v: %d is tied to itself", n, a)
			}
			for _, b := range places() {
				if impl.NetHas(n, a, b) != g.has(a, b) || impl.NetHas(n, b, a) != g.has(a, b) {
					t.Fatalf("%v: %d and %d", n, a, b)
				}
			}
		}
	}
}

// P4.
func TestTyingTiesTheseAlone(t *testing.T) {
	for g := range grids() {
		n := g.net()
		for _, a := range places() {
			for _, b := range places() {
				what := fmt.Sprintf("NetAdd %v %d %d", n, a, b)
				x, ok := impl.NetAdd(n, a, b)
				if !g.isKnot(a) || !g.isKnot(b) || a == b || g.has(a, b) {
					expectNone(t, what, x, ok)
					continue
				}
				expect(t, what, x, ok, g.set(a, b, true))
				again, ok := impl.NetAdd(x, a, b)
				expectNone(t, what+" twice", again, ok)
				again, ok = impl.NetAdd(x, b, a)
				expectNone(t, what+" twice, turned about", again, ok)
			}
		}
	}
}

// P5.
func TestCuttingCutsThatAlone(t *testing.T) {
	for g := range grids() {
		n := g.net()
		for _, a := range places() {
			for _, b := range places() {
				what := fmt.Sprintf("NetCut %v %d %d", n, a, b)
				x, ok := impl.NetCut(n, a, b)
				if !g.has(a, b) {
					expectNone(t, what, x, ok)
					continue
				}
				expect(t, what, x, ok, g.set(a, b, false))
				again, ok := impl.NetCut(x, a, b)
				expectNone(t, what+" twice", again, ok)
				again, ok = impl.NetCut(x, b, a)
				expectNone(t, what+" twice, turned about", again, ok)
			}
		}
	}
}

// P6.
func TestTiedAndCutIsAsItWas(t *testing.T) {
	for g := range grids() {
		n := g.net()
		for a := range g.knots {
			for b := range g.knots {
				if a == b {
					continue
				}
				first, second := impl.NetAdd, impl.NetCut
				if g.has(a, b) {
					first, second = second, first
				}
				x, _ := first(n, a, b)
				x, ok := second(x, b, a)
				expect(t, fmt.Sprintf("%v there and back %d %d", n, a, b), x, ok, g)
			}
		}
	}
}

// P7.
func TestWhichTieIsFirstDoesNotMatter(t *testing.T) {
	for g := range grids() {
		n := g.net()
		for _, p := range pairsOf(g.knots) {
			for _, q := range pairsOf(g.knots) {
				if p == q || g.has(p.A, p.B) || g.has(q.A, q.B) {
					continue
				}
				x, _ := impl.NetAdd(n, p.A, p.B)
				x, ok := impl.NetAdd(x, q.B, q.A)
				expect(t, fmt.Sprintf("%v and %v, %v", n, p, q), x, ok, g.set(p.A, p.B, true).set(q.A, q.B, true))
				y, _ := impl.NetAdd(n, q.A, q.B)
				y, ok = impl.NetAdd(y, p.A, p.B)
				if !ok || !sameNet(x, y) {
					t.Fatalf("%v and %v, %v: %v, and turned about %v", n, p, q, x, y)
				}
			}
		}
	}
}

// P7: all ties of a full net, in many orders.
func TestAllTiesInAnyOrder(t *testing.T) {
	full := gridOf(impl.NetKnots, 1<<63-1)
	r := numbers(3)
	for range 100 {
		order := pairsOf(impl.NetKnots)
		for i := range order {
			j := i + r.below(len(order)-i)
			order[i], order[j] = order[j], order[i]
		}
		n := impl.Net{Knots: impl.NetKnots}
		for _, p := range order {
			x, ok := impl.NetAdd(n, p.A, p.B)
			if !ok {
				t.Fatal(n, p)
			}
			n = x
		}
		expect(t, fmt.Sprint(order), n, true, full)
	}
}

// P8.
func TestWithoutAKnotsTies(t *testing.T) {
	for g := range grids() {
		n := g.net()
		for _, k := range places() {
			x := impl.NetWithout(n, k)
			if !g.isKnot(k) {
				if !isNothing(x) {
					t.Fatalf("%v without %d: %v", n, k, x)
				}
				continue
			}
			what := fmt.Sprintf("%v without %d", n, k)
			expect(t, what, x, true, g.without(k))
			expect(t, what+" twice", impl.NetWithout(x, k), true, g.without(k))
		}
	}
}

// P9.
func TestNetsAreTheSameJustIfTheirTextsAre(t *testing.T) {
	seen := map[string]impl.Net{}
	for g := range allGrids(5) {
		text := impl.NetWrite(g.net())
		if text == "" {
			t.Fatal("no text", g.net())
		}
		if other, ok := seen[text]; ok {
			t.Fatalf("%v and %v have one text", other, g.net())
		}
		seen[text] = g.net()
	}
	for g := range grids() {
		n := g.net()
		m := impl.Net{Knots: n.Knots, Ties: append(make([]impl.Tie, 0, 40), n.Ties...)}
		if impl.NetWrite(n) != impl.NetWrite(m) {
			t.Fatalf("%v has two texts", n)
		}
	}
	if impl.NetWrite(impl.Net{}) != impl.NetWrite(impl.Net{Ties: []impl.Tie{}}) {
		t.Error("the empty list is not the nil list")
	}
}

// roomy is a net whose ties stand in the midst of a longer list, and that whole list.
func roomy(n impl.Net) (impl.Net, []impl.Tie) {
	const ahead, behind = 2, 40
	whole := make([]impl.Tie, ahead+len(n.Ties)+behind)
	for i := range whole {
		whole[i] = impl.Tie{A: -100 - i, B: 100 + i}
	}
	copy(whole[ahead:], n.Ties)
	return impl.Net{Knots: n.Knots, Ties: whole[ahead : ahead+len(n.Ties)]}, whole
}

// answersOf is all nets that the functions answer of a net.
func answersOf(n impl.Net) []impl.Net {
	var out []impl.Net
	for a := -1; a <= n.Knots && a <= impl.NetKnots; a++ {
		out = append(out, impl.NetWithout(n, a))
		for b := -1; b <= n.Knots && b <= impl.NetKnots; b++ {
			x, _ := impl.NetAdd(n, a, b)
			y, _ := impl.NetCut(n, a, b)
			out = append(out, x, y)
			impl.NetHas(n, a, b)
		}
	}
	impl.NetOk(n)
	x, _ := impl.NetRead(impl.NetWrite(n))
	return append(out, x)
}

// scribble writes over an answer, spare room included.
func scribble(n impl.Net) {
	room := n.Ties[:cap(n.Ties)]
	for i := range room {
		room[i] = impl.Tie{A: 77, B: 78}
	}
}

func copies(list []impl.Net) []impl.Net {
	var out []impl.Net
	for _, n := range list {
		out = append(out, impl.Net{Knots: n.Knots, Ties: slices.Clone(n.Ties)})
	}
	return out
}

func expectMemoryApart(t *testing.T, n impl.Net) {
	t.Helper()
	arg, whole := roomy(n)
	before := slices.Clone(whole)
	answers := answersOf(arg)
	if !slices.Equal(whole, before) {
		t.Fatalf("%v: an argument was changed", n)
	}
	want := copies(answers)
	for i := range answers {
		scribble(answers[i])
		if !slices.Equal(whole, before) {
			t.Fatalf("%v: answer %d shares memory with the argument", n, i)
		}
		for j := i + 1; j < len(answers); j++ {
			if !sameNet(answers[j], want[j]) {
				t.Fatalf("%v: answers %d and %d share memory", n, i, j)
			}
		}
	}
	// Nothing is kept: asked again, all is as it was.
	if !slices.EqualFunc(answersOf(arg), want, sameNet) {
		t.Fatalf("%v: asked again it answers other things", n)
	}
}

func TestMemoryIsApart(t *testing.T) {
	for g := range grids() {
		expectMemoryApart(t, g.net())
	}
	for _, bad := range badNets() {
		expectMemoryApart(t, bad.net)
	}
}
