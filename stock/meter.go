package stock

import "forecourt/api"

// thousand is how many thousandths there are.
const thousand = 1000

// down and up return num / den, rounded; den is above 0.
func down(num, den int64) int64 {
	whole := num / den
	if num%den < 0 {
		whole--
	}
	return whole
}
func up(num, den int64) int64 { return -down(-num, den) }

// excess returns by how many thousandths of a litre a meter showed too much of a can.
func excess(c api.StockCan) int64 { return thousand * (c.Shown - c.True) }

// bearable reports whether no can makes the meter be off by more than the limit.
func bearable(cans []api.StockCan) bool {
	for _, c := range cans {
		if !within(-api.MaxStockOff*c.True, api.MaxStockOff*c.True, excess(c)) {
			return false
		}
	}
	return true
}
