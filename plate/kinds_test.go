package plate_test

import (
	"slices"
	"testing"

	"forecourt/api"
	"forecourt/plate"
)

// P6.8 and P6.9
func TestKindsAndSecond(t *testing.T) {
	for _, x := range []struct {
		t      [][]int64
		kinds  [][]int
		second int64
	}{
		{table(), [][]int{of(0, 1, 1), of(1, 1, 0)}, 3},
		{[][]int64{row(7, 3)}, [][]int{of(0, 2)}, 7},
		{[][]int64{row(3, 3)}, [][]int{of(1, 1)}, 3},
		{[][]int64{row(7, 3, 3)}, [][]int{of(0, 1, 1)}, 3},
		{[][]int64{row(7, 3, 5)}, [][]int{of(0, 2, 0)}, 5},
		{[][]int64{row(1, 9), row(9, 1)}, [][]int{of(2, 0), of(0, 2)}, 18},
		{[][]int64{row(0, 0), row(0, 0)}, [][]int{of(1, 1), of(1, 1)}, 0},
		{[][]int64{row(0, 1, 9), row(9, 0, 1)}, [][]int{of(2, 0, 0), of(0, 2, 0)}, 1},
		{[][]int64{row(0, 9, 9), row(9, 1, 1)}, [][]int{of(2, 0, 0), of(0, 1, 1)}, 1},
		{[][]int64{row(1, 2, 3), row(2, 4, 6), row(3, 6, 9)}, [][]int{of(0, 0, 2), of(0, 2, 0), of(2, 0, 0)}, 11},
		{[][]int64{row(0, 0, 9), row(9, 0, 0), row(0, 9, 0)}, [][]int{of(1, 1, 0), of(0, 1, 1), of(1, 0, 1)}, 0}, // a circle of three
		{zeros(8, 10), slices.Repeat([][]int{slices.Repeat(of(1), 10)}, 8), 0},
		{[][]int64{row(1000000, 0), row(0, 1000000)}, [][]int{of(0, 2), of(2, 0)}, 2000000},
	} {
		wantTable(t, kinds(t, x.t), x.kinds, x.t)
		pairing, n, e := plate.Second(x.t)
		want(t, e, api.OK, x)
		want(t, n, x.second, x)
		want(t, cost(x.t, pairing), n, x, pairing)
	}
}

// P6.8 and P6.9: a table of one row and one column has just one pairing; all others have more.
func TestJustOnePairing(t *testing.T) {
	for rows := 1; rows <= 8; rows++ {
		for columns := rows; columns <= 10; columns++ {
			pairing, n, e := plate.Second(zeros(rows, columns))
			if rows == 1 && columns == 1 {
				want(t, e, api.ErrNone)
				want(t, n == 0 && len(pairing) == 0, true)
				continue
			}
			want(t, e, api.OK, rows, columns)
			want(t, len(pairing), rows, columns)
		}
	}
	for _, n := range row(0, 7, 1000000) {
		x := [][]int64{row(n)}
		_, second, e := plate.Second(x)
		want(t, e, api.ErrNone, n)
		want(t, second, 0, n)
		wantTable(t, kinds(t, x), [][]int{of(api.PlateAlways)}, n)
	}
}

// P6.8: all cheapest pairings of small tables.
func TestKindsByAllPairings(t *testing.T) {
	var d die
	counts := map[int]int{}
	for range 2000 {
		x := d.small()
		_, lowest := cheapestOf(t, x)
		count, found := 0, zeros(len(x), len(x[0]))
		for pairing := range pairings(len(x), len(x[0])) {
			if cost(x, pairing) == lowest {
				count++
				for i, j := range pairing {
					found[i][j]++
				}
			}
		}
		for i, list := range kinds(t, x) {
			for j, kind := range list {
				wanted := api.PlateMay
				switch found[i][j] {
				case 0:
					wanted = api.PlateNever
				case int64(count):
					wanted = api.PlateAlways
				}
				want(t, kind, wanted, x, i, j)
				counts[kind]++
			}
		}
	}
	if counts[api.PlateNever] < 1000 || counts[api.PlateMay] < 1000 || counts[api.PlateAlways] < 1000 {
		t.Error(counts)
	}
}

// P6.8: great tables, by how many cheapest pairings have each pair.
func TestKindsOfGreatTables(t *testing.T) {
	var d die
	for range 25 {
		x := d.great()
		wantTable(t, kinds(t, x), kindsOf(x), x)
	}
}

// P6.9: of all pairings of small tables but one that is cheapest none costs less than the second one.
func TestSecondOfAllPairings(t *testing.T) {
	var d die
	for range 2000 {
		x := d.small()
		var costs []int64
		for pairing := range pairings(len(x), len(x[0])) {
			costs = append(costs, cost(x, pairing))
		}
		slices.Sort(costs)
		pairing, n, e := plate.Second(x)
		if len(costs) == 1 {
			want(t, e, api.ErrNone, x)
			continue
		}
		want(t, e, api.OK, x)
		want(t, n, costs[1], x)
		n, e = plate.CheckPairing(x, pairing)
		want(t, e, api.OK, x, pairing)
		want(t, n, costs[1], x, pairing)
	}
}

// P6.9: in great tables the second one is a cheapest one of those that differ from some cheapest one.
func TestSecondOfGreatTables(t *testing.T) {
	var d die
	for range 60 {
		x := d.great()
		first, _ := cheapestOf(t, x)
		wanted := int64(most)
		for i, j := range first {
			n, _ := cheapest(x, func(k, l int) bool { return k != i || l != j })
			wanted = min(wanted, n)
		}
		pairing, n, e := plate.Second(x)
		if wanted == most {
			want(t, e, api.ErrNone, x)
			continue
		}
		want(t, e, api.OK, x)
		want(t, n, wanted, x, pairing)
		n, e = plate.CheckPairing(x, pairing)
		want(t, e, api.OK, x, pairing)
		want(t, n, wanted, x, pairing)
		// If it costs as much as the first one, it is either another one, or some other one costs as much.
		if _, count := cheapest(x, all); n == cost(x, first) {
			want(t, count > 1, true, x)
		} else {
			want(t, slices.Equal(first, pairing), false, x)
		}
	}
}
