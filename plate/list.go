package plate

import "iter"

// least returns the first element with the least number, this number, and whether there is an element.
func least[T any](list iter.Seq[T], number func(T) int64) (T, int64, bool) {
	var best T
	var lowest int64
	found := false
	for x := range list {
		if n := number(x); !found || n < lowest {
			best, lowest, found = x, n, true
		}
	}
	return best, lowest, found
}

// twos yields all two indexes of a list of this length, the lesser one first, in lexicographic order.
func twos(length int) iter.Seq[[2]int] {
	return func(yield func([2]int) bool) {
		for one := range length {
			for two := one + 1; two < length; two++ {
				if !yield([2]int{one, two}) {
					return
				}
			}
		}
	}
}

// grid returns so many rows, each with so many columns.
func grid[T any](rows, columns int) [][]T {
	list := make([][]T, rows)
	for i := range list {
		list[i] = make([]T, columns)
	}
	return list
}
