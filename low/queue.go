package low

import (
	"container/heap"

	"gridiron/api"
)

// queue is nodes that have no leaf in common, in the order of the library's heap: the one whose best is the lowest comes first. None of their points was told yet.
type queue struct {
	tree    *Low
	nodes   []int
	touched int // so many nodes' bests were looked at
}

// queueOf makes a queue of the nodes that make up the row from one place on, ahead of another.
func queueOf(t *Low, from, to int) *queue {
	q := &queue{tree: t}
	nodes, _, _ := t.leaves.Canon(from, to)
	for _, node := range nodes {
		q.add(node)
	}
	return q
}

// add looks at a node's best: the node is one more, unless it has none.
func (q *queue) add(node int) {
	q.touched++
	if q.tree.knots[node].best != none {
		heap.Push(q, node)
	}
}

// next takes out the node whose best is the next one; there is one.
func (q *queue) next() int {
	return heap.Pop(q).(int)
}

// part adds what a node has beside its best: the nodes that hang on the way down to that one's leaf.
func (q *queue) part(node int) {
	k := q.tree.knots[node]
	best := k.best
	for k.Kind == api.Inner {
		down, beside := q.tree.knots[k.L], k.R
		if best >= down.To {
			down, beside = q.tree.knots[k.R], k.L
		}
		q.add(beside)
		k = down
	}
}

// Len, Less, Swap, Push and Pop are what the library's heap calls.

func (q *queue) Len() int {
	return len(q.nodes)
}

func (q *queue) Less(i, j int) bool {
	knots := q.tree.knots
	return q.tree.isLower(knots[q.nodes[i]].best, knots[q.nodes[j]].best)
}

func (q *queue) Swap(i, j int) {
	q.nodes[i], q.nodes[j] = q.nodes[j], q.nodes[i]
}

func (q *queue) Push(node any) {
	q.nodes = append(q.nodes, node.(int))
}

func (q *queue) Pop() any {
	last := len(q.nodes) - 1
	node := q.nodes[last]
	q.nodes = q.nodes[:last]
	return node
}
