package order

import "iter"

// least returns the first element with the least number, this number, and whether there is an element.
func least[T any](list iter.Seq[T], number func(T) int64) (T, int64, bool) {
	var best T
	var lowest int64
	found := false
	for x := range list {
		if n := number(x); !found || n < lowest {
			best, lowest, found = x, n, true
		}
	}
	return best, lowest, found
}
