package chart

import (
	"iter"
	"slices"

	"forecourt/api"
)

// within reports whether all numbers are from least to most.
func within(least, most int64, numbers ...int64) bool {
	for _, n := range numbers {
		if n < least || n > most {
			return false
		}
	}
	return true
}

// validRange reports whether a range is valid, with ends from least to most.
func validRange(r api.Range, least, most int64) bool {
	return r.Lo <= r.Hi && within(least, most, r.Lo, r.Hi)
}

// inOrder yields rows with their names, forwards or backwards.
func inOrder(rows []api.ChartRow, back bool) iter.Seq2[int, api.ChartRow] {
	if back {
		return slices.Backward(rows)
	}
	return slices.All(rows)
}

// dipsFit reports whether the dips of rows are those of a valid tank.
func dipsFit(rows []api.ChartRow) bool {
	before := int64(-1)
	for _, row := range inOrder(rows, false) {
		if row.Dip <= before || row.Dip > api.MaxChartDip {
			return false
		}
		before = row.Dip
	}
	return true
}

// litresFit reports whether the litres of rows are those of a valid tank.
func litresFit(rows []api.ChartRow) bool {
	for _, row := range inOrder(rows, false) {
		if !validRange(row.Litres, 0, api.MaxChartLitres) {
			return false
		}
	}
	return true
}

// hasDips reports whether all dips are dips of a tank with these rows.
func hasDips(rows []api.ChartRow, dips ...int64) bool {
	return within(rows[0].Dip, rows[len(rows)-1].Dip, dips...)
}

// contradiction returns the first two rows that contradict each other, and whether there are any.
func contradiction(rows []api.ChartRow) (one, two int, found bool) {
search:
	for i, row := range inOrder(rows, false) {
		for j, behind := range inOrder(rows[i+1:], false) {
			if row.Litres.Lo > behind.Litres.Hi {
				one, two, found = i, i+1+j, true
				break search
			}
		}
	}
	return one, two, found
}
