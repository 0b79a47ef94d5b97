package frame

import (
	"gridiron/api"
	"gridiron/pool"
)

// part is the nodes over some leaves: from, ahead of to, one at least. Where its nodes stand is worked out of how many there are, so that nobody who asks for places needs the nodes made.
type part struct {
	first    int // the place of its first node
	from, to int
}

// size tells how many nodes there are.
func (p part) size() int {
	return 2*(p.to-p.from) - 1
}

// root tells the place of the node over all leaves, which is the last one.
func (p part) root() int {
	return p.first + p.size() - 1
}

// isLeaf tells whether there is one leaf alone.
func (p part) isLeaf() bool {
	return p.to-p.from == 1
}

// halves are the parts below the root; of an odd number of leaves the left one has more.
func (p part) halves() (left, right part) {
	middle := p.to - (p.to-p.from)/2
	left = part{first: p.first, from: p.from, to: middle}
	right = part{first: p.first + left.size(), from: middle, to: p.to}
	return left, right
}

// put puts all nodes of p behind those of l.
func (p part) put(l *pool.Pool) {
	if p.isLeaf() {
		l.Put(api.Node{Kind: api.Leaf, L: -1, R: -1, From: p.from, To: p.to, Item: p.from})
		return
	}
	left, right := p.halves()
	left.put(l)
	right.put(l)
	l.Put(api.Node{Kind: api.Inner, L: left.root(), R: right.root(), From: p.from, To: p.to})
}

// canon goes for the leaves from, ahead of to: it tells places with those of the canonical nodes of p behind them, and how many nodes of p were entered.
func (p part) canon(from, to int, places []int) ([]int, int) {
	if p.to <= from || to <= p.from {
		return places, 1
	}
	if from <= p.from && p.to <= to {
		return append(places, p.root()), 1
	}
	left, right := p.halves()
	places, ofLeft := left.canon(from, to, places)
	places, ofRight := right.canon(from, to, places)
	return places, 1 + ofLeft + ofRight
}

// path tells the places of p's nodes over a leaf of its, from the root on.
func (p part) path(leaf int) []int {
	places := []int{p.root()}
	for !p.isLeaf() {
		left, right := p.halves()
		if leaf < right.from {
			p = left
		} else {
			p = right
		}
		places = append(places, p.root())
	}
	return places
}
