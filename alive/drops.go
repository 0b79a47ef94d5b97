package alive

// Drops are how many of the places from 0 on, ahead of an end, were dropped.
type Drops struct {
	// So many places make up a stretch. There are about as many stretches, so that a count has to do with two numbers, and a drop with few of both kinds.
	size   int
	ahead  []int // by stretches: how many of the places ahead of it were dropped
	within []int // by places, and the end: how many of those ahead of it, in its own stretch, were dropped
}

// DropsOf makes the places ahead of end, of which none was dropped.
func DropsOf(end int) Drops {
	size := 1
	for size*size <= end {
		size++
	}
	return Drops{size: size, ahead: make([]int, end/size+1), within: make([]int, end+1)}
}

// Add counts a place ahead of the end as dropped.
func (d *Drops) Add(place int) {
	stretch := place / d.size
	for next := place + 1; next < min((stretch+1)*d.size, len(d.within)); next++ {
		d.within[next]++
	}
	for next := stretch + 1; next < len(d.ahead); next++ {
		d.ahead[next]++
	}
}

// Ahead tells how many of the places ahead of this one were dropped.
func (d *Drops) Ahead(place int) int {
	return d.ahead[place/d.size] + d.within[place]
}
