// Package subset has sets of numbers from 0 on that are below a count: as ascending lists, and as values that say of each number whether it is in the set. Several layers use it.
package subset

// Valid reports whether a list is ascending and has only numbers from 0 on that are below a count.
func Valid(l []int, count int) bool {
	for i, n := range l {
		if n < 0 || n >= count || i > 0 && l[i-1] >= n {
			return false
		}
	}
	return true
}

// Of returns the numbers that are in a set, ascending.
func Of(members []bool) []int {
	var l []int
	for i, member := range members {
		if member {
			l = append(l, i)
		}
	}
	return l
}

// Members says of each number below a count whether it is in a valid list.
func Members(l []int, count int) []bool {
	members := make([]bool, count)
	for _, n := range l {
		members[n] = true
	}
	return members
}
