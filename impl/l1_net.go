// Package impl: what holds a net together, as it changes, with witnesses.
package impl

import (
	"math/bits"
	"strconv"
	"strings"
)

// Limits of nets.
const (
	NetKnots = 8
	NetText  = 600
)

// Tie is between two knots, the lesser one first.
type Tie struct {
	A int
	B int
}

// Net is knots, numbered from 0 on, and ties between them, in order.
type Net struct {
	Knots int
	Ties  []Tie
}

// pairs is a set of pairs of knots, a bit each (NetKnots times NetKnots of them have room).
// The later a pair stands in order the higher is its bit.
type pairs uint64

// pairBit is the bit of two knots, in either order. What is no pair has none, so that it is in no set.
func pairBit(a int, b int) pairs {
	low, high := min(a, b), max(a, b)
	if low < 0 || low == high || high >= NetKnots {
		return 0
	}
	return 1 << (low*NetKnots + high)
}

func (p pairs) has(a int, b int) bool {
	return p&pairBit(a, b) != 0
}

func (p pairs) hasAll(other pairs) bool {
	return other&^p == 0
}

func (p pairs) with(a int, b int) pairs {
	return p | pairBit(a, b)
}

func (p pairs) without(a int, b int) pairs {
	return p &^ pairBit(a, b)
}

func (p pairs) withoutKnot(k int) pairs {
	for other := range NetKnots {
		p = p.without(k, other)
	}
	return p
}

// ties is the set as a list, in order.
func (p pairs) ties() []Tie {
	var list []Tie
	for p != 0 {
		place := bits.TrailingZeros64(uint64(p))
		list = append(list, Tie{A: place / NetKnots, B: place % NetKnots})
		p &= p - 1
	}
	return list
}

// pairsOf is the ties of a net as a set, and whether the net is ok; of one that is not the set is empty.
func pairsOf(n Net) (pairs, bool) {
	if n.Knots < 0 || n.Knots > NetKnots {
		return 0, false
	}
	var set pairs
	for _, t := range n.Ties {
		if t.A >= t.B || !n.hasKnot(t.A) || !n.hasKnot(t.B) {
			return 0, false
		}
		// A bit above all that are set is, as a number, the greater one; any other one is out of order, or there twice.
		if pairBit(t.A, t.B) <= set {
			return 0, false
		}
		set = set.with(t.A, t.B)
	}
	return set, true
}

func (n Net) hasKnot(k int) bool {
	return k >= 0 && k < n.Knots
}

// NetOk says whether a net is ok.
func NetOk(n Net) bool {
	_, ok := pairsOf(n)
	return ok
}

// NetHas says whether two knots are tied.
func NetHas(n Net, a int, b int) bool {
	set, ok := pairsOf(n)
	return ok && set.has(a, b)
}

// NetAdd ties two knots.
func NetAdd(n Net, a int, b int) (Net, bool) {
	set, ok := pairsOf(n)
	if !ok || !n.hasKnot(a) || !n.hasKnot(b) || a == b || set.has(a, b) {
		return Net{}, false
	}
	return Net{Knots: n.Knots, Ties: set.with(a, b).ties()}, true
}

// NetCut cuts a tie.
func NetCut(n Net, a int, b int) (Net, bool) {
	set, ok := pairsOf(n)
	if !ok || !set.has(a, b) {
		return Net{}, false
	}
	return Net{Knots: n.Knots, Ties: set.without(a, b).ties()}, true
}

// NetWithout is a net without the ties of a knot.
func NetWithout(n Net, k int) Net {
	set, ok := pairsOf(n)
	if !ok || !n.hasKnot(k) {
		return Net{}
	}
	return Net{Knots: n.Knots, Ties: set.withoutKnot(k).ties()}
}

// NetWrite writes a net.
func NetWrite(n Net) string {
	if !NetOk(n) {
		return ""
	}
	var out strings.Builder
	out.WriteString("knots " + strconv.Itoa(n.Knots) + "\n")
	for _, t := range n.Ties {
		out.WriteString("tie " + strconv.Itoa(t.A) + " " + strconv.Itoa(t.B) + "\n")
	}
	return out.String()
}

// NetRead reads a net.
func NetRead(text string) (Net, bool) {
	if len(text) > NetText {
		return Net{}, false
	}
	c := cursor{text: text}
	n := c.net()
	if c.bad || !NetOk(n) {
		return Net{}, false
	}
	return n, true
}

// cursor goes through a text once. When it has met something else than was wanted it is bad, and stays so.
type cursor struct {
	text string
	at   int
	bad  bool
}

func (c *cursor) net() Net {
	c.want("knots ")
	n := Net{Knots: c.number()}
	c.want("\n")
	for !c.bad && c.at < len(c.text) {
		n.Ties = append(n.Ties, c.tie())
	}
	return n
}

func (c *cursor) tie() Tie {
	c.want("tie ")
	a := c.number()
	c.want(" ")
	b := c.number()
	c.want("\n")
	return Tie{A: a, B: b}
}

func (c *cursor) want(word string) {
	if c.bad || !strings.HasPrefix(c.text[c.at:], word) {
		c.bad = true
		return
	}
	c.at += len(word)
}

// number reads as many figures as a number may have: one that begins with 0 is that alone, as no zero is needless,
// and past NetKnots no net is ok, so that it stops ahead of growing too great. Figures left over are not what is wanted next.
func (c *cursor) number() int {
	value, begin := 0, c.at
	for !c.bad && value <= NetKnots && c.atFigure() {
		value = value*10 + int(c.text[c.at]-'0')
		c.at++
		if value == 0 {
			break
		}
	}
	if c.at == begin {
		c.bad = true
	}
	return value
}

func (c *cursor) atFigure() bool {
	return c.at < len(c.text) && c.text[c.at] >= '0' && c.text[c.at] <= '9'
}
