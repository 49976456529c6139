// Package samples makes graphs for the tests of the other packages: small known ones, and ones of many shapes, the same ones each time.
package samples

// Dice tells numbers in a fixed row that looks like none; the zero value is one row, other numbers begin others.
type Dice uint64

// Roll answers the next number, from 0 on and below n.
func (d *Dice) Roll(n int) int {
	*d = *d*6364136223846793005 + 1442695040888963407
	return int(uint64(*d>>33) % uint64(n))
}

// Perm answers a permutation of n things.
func (d *Dice) Perm(n int) []int {
	p := make([]int, n)
	for i := range p {
		j := d.Roll(i + 1)
		p[i] = p[j]
		p[j] = i
	}
	return p
}
