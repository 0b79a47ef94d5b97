package alive

// Drops are how many of the places from 0 on, ahead of an end, were dropped.
type Drops struct {
	// The n-th of these, counted from 1 on, is how many of the last places ahead of n were dropped: of as many as n's lowest binary digit that is not 0 is worth. So each count, and each drop, has to do with one of them a binary digit.
	shares []int
}

// DropsOf makes the places ahead of end, of which none was dropped.
func DropsOf(end int) Drops {
	return Drops{shares: make([]int, end)}
}

// Add counts a place ahead of the end as dropped.
func (d *Drops) Add(place int) {
	for n := place + 1; n <= len(d.shares); n += lowest(n) {
		d.shares[n-1]++
	}
}

// Ahead tells how many of the places ahead of this one were dropped, and how many cells were looked at for that: not more than the place has binary digits.
func (d *Drops) Ahead(place int) (int, int) {
	count, looked := 0, 0
	for n := place; n > 0; n -= lowest(n) {
		count += d.shares[n-1]
		looked++
	}
	return count, looked
}

// lowest tells what the lowest binary digit of n that is not 0 is worth.
func lowest(n int) int {
	return n & -n
}
