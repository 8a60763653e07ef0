package plate_test

import (
	"slices"
	"testing"

	"forecourt/api"
	"forecourt/plate"
)

// P6.4
func TestNear(t *testing.T) {
	three := reg("A81", "B0", "80")
	for _, x := range []struct {
		register []string
		read     string
		most     int64
		wanted   []int
		e        api.Errno
	}{
		{three, "BO", 0, nil, api.OK},
		{three, "BO", 1, of(1), api.OK},
		{three, "BO", 2, of(1, 2), api.OK},
		{three, "BO", 9, of(1, 2), api.OK},
		{three, "BO", 10, of(0, 1, 2), api.OK},
		{three, "BO", most, of(0, 1, 2), api.OK},
		{three, "80", 0, of(2), api.OK},
		{nil, "80", 0, nil, api.OK},
		{reg(), "80", most, nil, api.OK},
		{reg("B", "8", "B", "8"), "B", 0, of(0, 2), api.OK},
		{slices.Repeat(three, 10), "A81", 0, of(0, 3, 6, 9, 12, 15, 18, 21, 24, 27), api.OK},
		{slices.Repeat(three, 11)[:31], "A81", 0, nil, api.ErrMany},
		{slices.Repeat(three, 11), "A81", -1, nil, api.ErrMany},
		{slices.Repeat(three, 10), "A81", -1, nil, api.ErrArg},
		{nil, "A", -1, nil, api.ErrArg},
		{three, "A", least, nil, api.ErrArg},
	} {
		list, e := plate.Near(chapter(), x.register, x.read, x.most)
		want(t, e, x.e, x)
		wantList(t, list, x.wanted, x)
	}
}

// P6.4: registers of any size, all bounds.
func TestNearByDistances(t *testing.T) {
	var d die
	for range 60 {
		n := int(d.roll(2, 6))
		b := d.book(int(d.roll(0, 6)), n, 5)
		register, read, far := d.plates(int(d.roll(0, 30)), 6, n), d.plate(6, n), distances(b)
		for most := range int64(20) {
			var wanted []int
			for i, s := range register {
				if far(s, read) <= most {
					wanted = append(wanted, i)
				}
			}
			wantList(t, near(t, b, register, read, most), wanted, b, register, read, most)
		}
	}
}

// P6.4
func TestApart(t *testing.T) {
	for _, x := range []struct {
		register []string
		two      [2]int
		wanted   int64
		e        api.Errno
	}{
		{reg("A", "B"), [2]int{0, 1}, 6, api.OK},
		{reg("A", "B", "A"), [2]int{0, 2}, 0, api.OK},
		{reg("B", "A", "A"), [2]int{1, 2}, 0, api.OK},
		{reg("X", "B", "O", "8", "0", "8"), [2]int{3, 5}, 0, api.OK},
		{reg("X", "B", "O", "8", "0"), [2]int{1, 3}, 1, api.OK},
		{reg("X", "O", "B", "8", "0"), [2]int{1, 4}, 1, api.OK},
		{reg("AA", "BB", "AB", "BA"), [2]int{0, 2}, 6, api.OK},
		{slices.Repeat(reg("A"), 30), [2]int{0, 1}, 0, api.OK},
		{slices.Repeat(reg("A"), 31), [2]int{}, 0, api.ErrMany},
		{reg("A"), [2]int{}, 0, api.ErrNone},
		{nil, [2]int{}, 0, api.ErrNone},
		{reg(), [2]int{}, 0, api.ErrNone},
	} {
		two, n, e := plate.Apart(chapter(), x.register)
		want(t, e, x.e, x)
		want(t, two, x.two, x)
		want(t, n, x.wanted, x)
	}
}

// P6.4: registers of any size. Several two plates are as near to each other in many of them.
func TestApartByDistances(t *testing.T) {
	var d die
	for range 200 {
		n := int(d.roll(2, 12))
		b := d.book(int(d.roll(0, 6)), n, 9)
		register, far := d.plates(int(d.roll(2, 30)), 10, n), distances(b)
		wanted, lowest := [2]int{}, int64(most)
		for i := range register {
			for j := i + 1; j < len(register); j++ {
				if c := far(register[i], register[j]); c < lowest {
					wanted, lowest = [2]int{i, j}, c
				}
			}
		}
		two, c := apart(t, b, register)
		want(t, two, wanted, b, register)
		want(t, c, lowest, b, register)
	}
}

// P6.5
func TestTable(t *testing.T) {
	three := reg("A81", "B0", "80")
	list, e := plate.Table(chapter(), reg("BO", "I"), three)
	want(t, e, api.OK)
	wantTable(t, list, [][]int64{row(10, 1, 2), row(7, 9, 9)})
	list, e = plate.Table(chapter(), reg("A"), reg("A"))
	want(t, e, api.OK)
	wantTable(t, list, [][]int64{row(0)})
	for rows := range 13 {
		for columns := range 13 {
			list, e := plate.Table(chapter(), slices.Repeat(reg("B"), rows), slices.Repeat(reg("8"), columns))
			if rows < 1 || rows > 8 || columns < rows || columns > 10 {
				want(t, e, api.ErrMany, rows, columns)
				want(t, len(list), 0, rows, columns)
				continue
			}
			want(t, e, api.OK, rows, columns)
			wantTable(t, list, slices.Repeat([][]int64{slices.Repeat(row(1), columns)}, rows), rows, columns)
		}
	}
}

// P6.5: tables are those of all distances, and all that Table returns is a table for the functions on tables.
func TestTableByDistances(t *testing.T) {
	var d die
	for range 200 {
		n := int(d.roll(2, 36))
		b := d.book(int(d.roll(0, 40)), n, 1000)
		rows := d.plates(int(d.roll(1, 8)), 10, n)
		columns := d.plates(int(d.roll(int64(len(rows)), 10)), 10, n)
		list, e := plate.Table(b, rows, columns)
		want(t, e, api.OK, b, rows, columns)
		far, wanted := distances(b), [][]int64(nil)
		for _, one := range rows {
			var costs []int64
			for _, two := range columns {
				costs = append(costs, far(one, two))
			}
			wanted = append(wanted, costs)
		}
		wantTable(t, list, wanted, b, rows, columns)
		cheapestOf(t, list)
	}
}
