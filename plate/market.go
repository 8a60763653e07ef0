package plate

import "forecourt/api"

// nobody holds a free column.
const nobody = -1

// market is a table with prices, and the rows that hold columns so far. A row holds a column only
// if it is allowed, and if both prices together are what it costs; a free column has the price 0.
type market struct {
	table
	api.PlatePrices
	allowed func(pair) bool
	holders [api.MaxPlateColumns]int
}

// marketOf returns a table with the price 0 for all, in which all columns are free.
func marketOf(t table, allowed func(pair) bool) *market {
	m := &market{table: t, allowed: allowed}
	m.Rows, m.Columns = make([]int64, len(t)), make([]int64, len(t[0]))
	for column := range m.holders {
		m.holders[column] = nobody
	}
	return m
}

// settle returns a table with a cheapest one of the pairings that have only allowed pairs, and
// with prices that prove it among these, and whether there is such a pairing.
func settle(t table, allowed func(pair) bool) (*market, bool) {
	m := marketOf(t, allowed)
	for row := range t {
		if !m.seat(row) {
			return m, false
		}
	}
	return m, true
}

// pairing returns the column that each row holds.
func (m *market) pairing() []int {
	pairing := make([]int, len(m.table))
	for column, row := range m.holders {
		if row != nobody {
			pairing[row] = column
		}
	}
	return pairing
}

// extra returns what a pair costs beyond both prices.
func (m *market) extra(p pair) int64 {
	return m.table[p.row][p.column] - m.Rows[p.row] - m.Columns[p.column]
}

// right reports whether the prices are right.
func (m *market) right() bool {
	for _, price := range m.Columns {
		if price > 0 {
			return false
		}
	}
	for p := range m.pairs {
		if m.extra(p) < 0 {
			return false
		}
	}
	return true
}

// bound returns the sum of all prices. If each row holds a column, this is what the pairing costs.
func (m *market) bound() int64 {
	sum := int64(0)
	for _, price := range m.Rows {
		sum += price
	}
	for _, price := range m.Columns {
		sum += price
	}
	return sum
}

// others yields, for each row, a cheapest one of the pairings in which it has another column, if there is one.
func (m *market) others(yield func([]int) bool) {
	for row, column := range m.pairing() {
		other, found := settle(m.table, pair{row, column}.left)
		if found && !yield(other.pairing()) {
			return
		}
	}
}

// kind returns the kind of a pair, if each row holds a column: a pair that is held is in all cheapest
// pairings if they cost more without it, another one is in none if they cost more with it.
func (m *market) kind(p pair) int {
	held, allowed := m.holders[p.column] == p.row, p.kept
	if held {
		allowed = p.left
	}
	other, found := settle(m.table, allowed)
	switch {
	case found && other.bound() == m.bound():
		return api.PlateMay
	case held:
		return api.PlateAlways
	}
	return api.PlateNever
}
