package plate_test

import (
	"slices"
	"testing"

	"forecourt/api"
	"forecourt/plate"
)

// zeros returns a table of zeros.
func zeros(rows, columns int) [][]int64 {
	return copied(slices.Repeat([][]int64{make([]int64, columns)}, rows))
}

// badTables are tables that are none, with the error. If several errors apply, it is the one that is named first.
func badTables() map[api.Errno][][][]int64 {
	return map[api.Errno][][][]int64{
		api.ErrMany: {
			nil, {}, {nil}, {{}}, {row(1), row(2)}, zeros(1, 11), zeros(9, 10), zeros(9, 9), zeros(8, 7), zeros(2, 1),
			{nil, row(1, 2)}, {row(-1), row(1, 2)}, {make([]int64, 1<<16)}, make([][]int64, 1<<16), zeros(11, 11),
		},
		api.ErrEqual: {
			{row(1, 2), row(3)}, {row(1, 2), row(3, 4, 5)}, {row(1, 2), nil}, {row(-1, 2), row(3)},
			{row(1, 2, 3), row(1, -2, 3), row(1, 2)}, {row(1, 2), make([]int64, 1<<16)},
		},
		api.ErrArg: {
			{row(-1)}, {row(1, 1000001)}, {row(1, 2), row(3, -4)}, {row(least)}, {row(0, most)},
			append(zeros(7, 10), row(0, 0, 0, 0, 0, 0, 0, 0, 0, -1)),
		},
	}
}

// P6.6 to P6.9: all functions with a table return its error before all others.
func TestTablesThatAreNone(t *testing.T) {
	for wanted, list := range badTables() {
		for _, x := range list {
			for _, pairing := range [][]int{nil, of(0), of(0, 0), of(-1, 5)} {
				n, e := plate.CheckPairing(x, pairing)
				want(t, e, wanted, x)
				want(t, n, 0, x)
			}
			for _, p := range []api.PlatePrices{{}, prices(row(0), row(0)), prices(row(most, least), row(5))} {
				n, e := plate.CheckPrices(x, p)
				want(t, e, wanted, x)
				want(t, n, 0, x)
			}
			pairing, n, e := plate.Cheapest(x)
			want(t, e, wanted, x)
			want(t, n == 0 && len(pairing) == 0, true, x)
			p, e := plate.Prices(x)
			want(t, e, wanted, x)
			want(t, len(p.Rows)+len(p.Columns), 0, x)
			k, e := plate.Kinds(x)
			want(t, e, wanted, x)
			want(t, len(k), 0, x)
			pairing, n, e = plate.Second(x)
			want(t, e, wanted, x)
			want(t, n == 0 && len(pairing) == 0, true, x)
		}
	}
}

// P6.6: tables of all sizes, and with the least and the greatest costs.
func TestTablesOfAllSizes(t *testing.T) {
	for rows := 1; rows <= 8; rows++ {
		for columns := rows; columns <= 10; columns++ {
			for _, n := range row(0, 1, api.MaxPlateCost) {
				x := slices.Repeat([][]int64{slices.Repeat(row(n), columns)}, rows)
				pairing, c := cheapestOf(t, x)
				want(t, c, n*int64(rows), x)
				c, e := plate.CheckPairing(x, pairing)
				want(t, e, api.OK, x, pairing)
				want(t, c, n*int64(rows), x, pairing)
			}
		}
	}
}

// P6.6
func TestCheckPairing(t *testing.T) {
	for _, x := range []struct {
		t       [][]int64
		pairing []int
		wanted  int64
		e       api.Errno
	}{
		{table(), of(0, 1), 4, api.OK},
		{table(), of(0, 2), 9, api.OK},
		{table(), of(1, 0), 3, api.OK},
		{table(), of(1, 2), 6, api.OK},
		{table(), of(2, 0), 5, api.OK},
		{table(), of(2, 1), 3, api.OK},
		{[][]int64{row(7)}, of(0), 7, api.OK},
		{table(), nil, 0, api.ErrEqual},
		{table(), of(1), 0, api.ErrEqual},
		{table(), of(0, 1, 2), 0, api.ErrEqual},
		{table(), of(5, 5, -1), 0, api.ErrEqual},
		{table(), make([]int, 1<<16), 0, api.ErrEqual},
		{table(), of(0, 3), 0, api.ErrRange},
		{table(), of(3, 3), 0, api.ErrRange},
		{table(), of(-1, 0), 0, api.ErrRange},
		{table(), of(least, most), 0, api.ErrRange},
		{zeros(3, 4), of(1, 1, 4), 0, api.ErrRange}, // a column behind one that comes twice
		{table(), of(0, 0), 0, api.ErrRule},
		{table(), of(2, 2), 0, api.ErrRule},
		{zeros(3, 4), of(3, 1, 3), 0, api.ErrRule},
	} {
		n, e := plate.CheckPairing(x.t, x.pairing)
		want(t, e, x.e, x)
		want(t, n, x.wanted, x)
	}
}

// P6.6: all pairings of small tables, and lists that are none, by the definition.
func TestCheckPairingByDefinition(t *testing.T) {
	var d die
	counts := map[api.Errno]int{}
	for range 300 {
		x := d.small()
		for pairing := range pairings(len(x), len(x[0])) {
			n, e := plate.CheckPairing(x, pairing)
			want(t, e, api.OK, x, pairing)
			want(t, n, cost(x, pairing), x, pairing)
		}
		for range 20 {
			var list []int
			wanted := api.OK
			for range x {
				column := int(d.roll(-1, int64(len(x[0]))))
				if slices.Contains(list, column) && wanted == api.OK {
					wanted = api.ErrRule
				}
				if column < 0 || column == len(x[0]) {
					wanted = api.ErrRange
				}
				list = append(list, column)
			}
			_, e := plate.CheckPairing(x, list)
			want(t, e, wanted, x, list)
			counts[e]++
		}
	}
	if len(counts) != 3 || counts[api.ErrRule] < 300 {
		t.Error(counts)
	}
}

// checkCheapest fails the test if Cheapest does not return a pairing that costs so much.
func checkCheapest(t *testing.T, x [][]int64, wanted int64) {
	t.Helper()
	pairing, n := cheapestOf(t, x)
	want(t, n, wanted, x, pairing)
	n, e := plate.CheckPairing(x, pairing)
	want(t, e, api.OK, x, pairing)
	want(t, n, wanted, x, pairing)
}

// P6.6
func TestCheapest(t *testing.T) {
	for _, x := range []struct {
		t      [][]int64
		wanted int64
	}{
		{table(), 3},
		{[][]int64{row(7)}, 7},
		{[][]int64{row(7, 3, 5)}, 3},
		{[][]int64{row(1, 2), row(1, 9)}, 3},                      // the row behind needs the column
		{[][]int64{row(1, 2, 3), row(2, 4, 6), row(3, 6, 9)}, 10}, // not 1 4 9
		{[][]int64{row(1, 2, 9, 9), row(1, 9, 3, 9), row(1, 9, 9, 4)}, 6},
		{[][]int64{row(0, 0, 9), row(0, 9, 9), row(9, 0, 5)}, 5},
		{[][]int64{row(0, 1000000), row(0, 1000000)}, 1000000},
		{[][]int64{row(5, 4, 3, 2), row(5, 4, 3, 2), row(5, 4, 3, 2)}, 9},
		{[][]int64{row(1, 0, 2), row(0, 2, 2), row(0, 0, 1000000)}, 2},
		{[][]int64{row(3, 1, 1), row(1, 3, 1), row(1, 1, 3)}, 3},
		{[][]int64{row(1000000, 0), row(0, 1000000)}, 0},
		{[][]int64{row(8, 8, 8, 8, 8, 8, 8, 8, 8, 7)}, 7},
		{[][]int64{row(2, 1, 0), row(2, 1, 0), row(3, 2, 0)}, 3},
		{[][]int64{row(10, 11, 12), row(0, 5, 9), row(0, 4, 9)}, 12 + 0 + 4},
		{[][]int64{row(1, 100, 100), row(1, 2, 100), row(100, 2, 3)}, 1 + 2 + 3},
	} {
		checkCheapest(t, x.t, x.wanted)
	}
}

// P6.6: of all pairings of small tables none costs less, in great ones none that a walk over all sets of columns finds.
func TestCheapestOfAllPairings(t *testing.T) {
	var d die
	for range 2000 {
		x, wanted := d.small(), int64(most)
		for pairing := range pairings(len(x), len(x[0])) {
			wanted = min(wanted, cost(x, pairing))
		}
		checkCheapest(t, x, wanted)
		lowest, _ := cheapest(x, all)
		want(t, lowest, wanted, x)
	}
	for range 300 {
		x := d.great()
		wanted, _ := cheapest(x, all)
		checkCheapest(t, x, wanted)
	}
}

// P6.7
func TestCheckPrices(t *testing.T) {
	const greatest = api.MaxNumber
	for _, x := range []struct {
		t      [][]int64
		p      api.PlatePrices
		wanted int64
		e      api.Errno
	}{
		{table(), prices(row(3, 2), row(0, -2, 0)), 3, api.OK},
		{table(), prices(row(1, 0), row(0, 0, 0)), 1, api.OK},
		{table(), prices(row(0, 0), row(0, 0, 0)), 0, api.OK},
		{table(), prices(row(-5, -7), row(-1, 0, -9)), -22, api.OK},
		{table(), prices(row(3, -greatest), row(0, -2, 0)), 1 - greatest, api.OK},
		{table(), prices(row(-greatest, -greatest), row(-greatest, -greatest, -greatest)), -5 * greatest, api.OK},
		{table(), prices(row(greatest, greatest), row(-greatest, -greatest, -greatest)), -greatest, api.OK},
		{table(), prices(row(4, 2), row(0, -2, 0)), 0, api.ErrSum},
		{table(), prices(row(3, 3), row(0, -2, 0)), 0, api.ErrSum},
		{table(), prices(row(3, 2), row(0, -1, 0)), 0, api.ErrSum},
		{table(), prices(row(3, 2), row(1, -2, 0)), 0, api.ErrSum},
		{table(), prices(row(0, 0), row(0, 0, 1)), 0, api.ErrSum}, // a column above 0, though it costs more
		{table(), prices(row(-1, -1), row(1, 1, 1)), 0, api.ErrSum},
		{table(), prices(row(greatest, 0), row(0, 0, 0)), 0, api.ErrSum},
		{table(), prices(row(-greatest, -greatest), row(0, 0, greatest)), 0, api.ErrSum},
		{table(), api.PlatePrices{}, 0, api.ErrEqual},
		{table(), prices(row(3), row(0, -2, 0)), 0, api.ErrEqual},
		{table(), prices(row(3, 2, 0), row(0, -2, 0)), 0, api.ErrEqual},
		{table(), prices(row(3, 2), row(0, -2)), 0, api.ErrEqual},
		{table(), prices(row(3, 2), row(0, -2, 0, 0)), 0, api.ErrEqual},
		{table(), prices(row(3, 2, 0), row(0, -2)), 0, api.ErrEqual},
		{table(), prices(row(most), row(0, -2, 0)), 0, api.ErrEqual},
		{table(), prices(make([]int64, 1<<16), make([]int64, 1<<16)), 0, api.ErrEqual},
		{table(), prices(row(greatest+1, 0), row(0, 0, 0)), 0, api.ErrRange},
		{table(), prices(row(0, -greatest-1), row(0, 0, 0)), 0, api.ErrRange},
		{table(), prices(row(0, 0), row(0, 0, greatest+1)), 0, api.ErrRange},
		{table(), prices(row(9, 9), row(-greatest-1, 0, 0)), 0, api.ErrRange},
		{table(), prices(row(most, most), row(0, 0, 0)), 0, api.ErrRange},
		{table(), prices(row(0, 0), row(least, least, least)), 0, api.ErrRange},
		{[][]int64{row(7)}, prices(row(7), row(0)), 7, api.OK},
		{[][]int64{row(7)}, prices(row(9), row(-2)), 7, api.OK},
		{[][]int64{row(7)}, prices(row(8), row(0)), 0, api.ErrSum},
	} {
		n, e := plate.CheckPrices(x.t, x.p)
		want(t, e, x.e, x)
		want(t, n, x.wanted, x)
	}
}

// areRight reports whether prices are right, by the definition, and returns their bound.
func areRight(x [][]int64, p api.PlatePrices) (int64, bool) {
	var sum int64
	for i := range x {
		for j := range x[i] {
			if p.Rows[i]+p.Columns[j] > x[i][j] || p.Columns[j] > 0 {
				return 0, false
			}
		}
	}
	for _, n := range append(slices.Clone(p.Rows), p.Columns...) {
		sum += n
	}
	return sum, true
}

// P6.7: Prices returns right prices whose bound is what a cheapest pairing costs; others near to them
// are right just if the definition says so.
func TestPrices(t *testing.T) {
	var d die
	counts := map[bool]int{}
	for i := range 3000 {
		x := d.small()
		if i%3 == 0 {
			x = d.great()
		}
		p, e := plate.Prices(x)
		want(t, e, api.OK, x)
		want(t, len(p.Rows), len(x), x)
		want(t, len(p.Columns), len(x[0]), x)
		bound, right := areRight(x, p)
		want(t, right, true, x, p)
		_, wanted := cheapestOf(t, x)
		want(t, bound, wanted, x, p)
		for range 5 {
			n, e := plate.CheckPrices(x, p)
			bound, right = areRight(x, p)
			want(t, n, bound, x, p)
			want(t, e, map[bool]api.Errno{true: api.OK, false: api.ErrSum}[right], x, p)
			counts[right]++
			p.Rows[d.index(len(p.Rows))] += d.roll(-1, 1)
			p.Columns[d.index(len(p.Columns))] += d.roll(-1, 1)
		}
	}
	if counts[true] < 1000 || counts[false] < 1000 {
		t.Error(counts)
	}
}
