package alive

// Names are names in a row, each of which is there till it is dropped.
type Names struct {
	names   []uint32
	there   Runs
	dropped Drops
}

// NamesOf makes a row of these names, which are all there; it keeps the list.
func NamesOf(names []uint32) Names {
	return Names{names: names, there: RunsOf(len(names)), dropped: DropsOf(len(names))}
}

// Has tells whether the name at this place is there.
func (n *Names) Has(place int) bool {
	return n.there.Has(place)
}

// Between tells the names that are there from one place on, ahead of another.
func (n *Names) Between(from, to int) []uint32 {
	var names []uint32
	for place := n.there.From(from); place < to; place = n.there.From(place + 1) {
		names = append(names, n.names[place])
	}
	return names
}

// Count tells how many names are there from one place on, ahead of another.
func (n *Names) Count(from, to int) int {
	return to - from - (n.dropped.Ahead(to) - n.dropped.Ahead(from))
}

// Drop takes out the name at this place, which is there.
func (n *Names) Drop(place int) {
	n.there.Drop(place)
	n.dropped.Add(place)
}
