package plate

// table is what each row costs with each column.
type table [][]int64

// pair is a column for a row.
type pair struct{ row, column int }

// pairs yields all pairs of a table, row by row.
func (t table) pairs(yield func(pair) bool) {
	for row := range t {
		for column := range t[row] {
			if !yield(pair{row, column}) {
				return
			}
		}
	}
}

// cost returns what a pairing costs.
func (t table) cost(pairing []int) int64 {
	sum := int64(0)
	for row, column := range pairing {
		sum += t[row][column]
	}
	return sum
}

// anyPair allows all pairs.
func anyPair(pair) bool { return true }

// kept allows just the pairings that have this pair.
func (p pair) kept(other pair) bool { return other.row != p.row || other == p }

// left allows just the pairings that do not have this pair.
func (p pair) left(other pair) bool { return p != other }
