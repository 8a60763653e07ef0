package plate_test

import (
	"slices"
	"testing"

	"forecourt/api"
	"forecourt/plate"
)

// P6.10: also if the least cost of two letters is a chain, or what it costs to skip both.
func TestDistances(t *testing.T) {
	var d die
	for range 3000 {
		n := int(d.roll(2, 36))
		b := d.book(int(d.roll(0, 40)), n, d.roll(0, api.MaxPlateSkip))
		one, two, three := d.plate(10, n), d.plate(10, n), d.plate(10, n)
		far := distance(t, b, one, two)
		want(t, distance(t, b, one, one), 0, b, one)
		want(t, distance(t, b, two, one), far, b, one, two)
		want(t, far <= distance(t, b, one, three)+distance(t, b, three, two), true, b, one, two, three)
	}
}

// P6.11: no plate is nearer than half of what Apart says to two plates of a register.
func TestNoPlateIsNearToTwo(t *testing.T) {
	var d die
	counts := map[int]int{}
	for range 2000 {
		n := int(d.roll(3, 36))
		b := d.book(int(d.roll(0, 40)), n, d.roll(1, api.MaxPlateSkip))
		register := d.plates(int(d.roll(2, 6)), 10, n)
		_, far := apart(t, b, register)
		if far == 0 {
			continue
		}
		for range 5 {
			read := d.misread(register[d.index(len(register))], n)
			found := len(near(t, b, register, read, (far-1)/2))
			want(t, found <= 1, true, b, register, read)
			counts[found]++
		}
	}
	if counts[0] < 1000 || counts[1] < 1000 {
		t.Error(counts)
	}
}

// misread returns a plate with up to three mistakes: other letters, letters missed, and letters seen.
func (d *die) misread(s string, n int) string {
	read := []byte(s)
	for range d.roll(0, 3) {
		i := d.index(len(read))
		switch d.roll(0, 2) {
		case 0:
			read[i] = d.letter(n)
		case 1:
			if len(read) > 1 {
				read = slices.Delete(read, i, i+1)
			}
		case 2:
			if len(read) < 10 {
				read = slices.Insert(read, i, d.letter(n))
			}
		}
	}
	return string(read)
}

// P6.11: Near finds just the plate that was read with mistakes that cost less than half of what Apart says.
func TestNearFindsJustTheOneThatWasRead(t *testing.T) {
	var d die
	counts := map[bool]int{}
	for range 2000 {
		n := int(d.roll(3, 36))
		b := d.book(int(d.roll(0, 40)), n, d.roll(1, api.MaxPlateSkip))
		register := d.plates(int(d.roll(2, 30)), 10, n)
		_, far := apart(t, b, register)
		for range 5 {
			i := d.index(len(register))
			read := d.misread(register[i], n)
			list, e := plate.Match(b, register[i], read)
			want(t, e, api.OK, b, register[i], read)
			mistakes, e := plate.CheckMatch(b, register[i], read, list)
			want(t, e, api.OK, b, register[i], read, list)
			counts[2*mistakes < far]++
			if 2*mistakes >= far {
				continue
			}
			for _, most := range row(mistakes, (far-1)/2, d.roll(mistakes, (far-1)/2)) {
				wantList(t, near(t, b, register, read, most), of(i), b, register, read, most)
			}
		}
	}
	if counts[true] < 1000 || counts[false] < 1000 {
		t.Error(counts)
	}
}

// P6.12: no pairing costs less than the bound of right prices, those of Prices or others.
func TestNoPairingCostsLessThanABound(t *testing.T) {
	var d die
	found := 0
	for range 1000 {
		x := d.great()
		p, e := plate.Prices(x)
		want(t, e, api.OK, x)
		bound, e := plate.CheckPrices(x, p)
		want(t, e, api.OK, x, p)
		pairing, lowest := cheapestOf(t, x)
		want(t, bound, lowest, x, p)
		want(t, cost(x, pairing), lowest, x, pairing)
		for range 10 {
			other := d.order(len(x[0]))[:len(x)]
			n, e := plate.CheckPairing(x, other)
			want(t, e, api.OK, x, other)
			want(t, n >= bound, true, x, other)
			p.Rows[d.index(len(x))] += d.roll(-1, 1)
			p.Columns[d.index(len(x[0]))] -= d.roll(-1, 1)
			if less, e := plate.CheckPrices(x, p); e == api.OK {
				want(t, less <= lowest && less <= n, true, x, p)
				found++
			}
		}
	}
	if found < 1000 {
		t.Error(found)
	}
}

// P6.13
func TestKindsAndPairings(t *testing.T) {
	var d die
	counts := map[bool]int{}
	for i := range 1500 {
		x := d.small()
		if i%3 == 0 {
			x = d.great()
		}
		pairing, lowest := cheapestOf(t, x)
		k, may := kinds(t, x), false
		for i, list := range k {
			want(t, list[pairing[i]] == api.PlateMay || list[pairing[i]] == api.PlateAlways, true, x, k, pairing)
			if slices.Contains(list, api.PlateAlways) {
				for j, kind := range list {
					want(t, kind == api.PlateNever, j != pairing[i], x, k, pairing)
				}
			}
			may = may || slices.Contains(list, api.PlateMay)
		}
		_, second, e := plate.Second(x)
		if len(x[0]) == 1 {
			want(t, e, api.ErrNone, x)
			continue
		}
		want(t, e, api.OK, x)
		want(t, second >= lowest, true, x)
		want(t, second == lowest, may, x, k)
		counts[may]++
	}
	if counts[true] < 300 || counts[false] < 300 {
		t.Error(counts)
	}
}

// P6.14: all costs of a row are greater by as much.
func TestARowWithGreaterCosts(t *testing.T) {
	var d die
	for range 300 {
		x := d.great()
		i, greatest := d.index(len(x)), int64(0)
		for _, list := range x {
			greatest = max(greatest, slices.Max(list))
		}
		more := d.roll(0, api.MaxPlateCost-greatest)
		other := copied(x)
		for j := range other[i] {
			other[i][j] += more
		}
		_, before := cheapestOf(t, x)
		_, now := cheapestOf(t, other)
		want(t, now, before+more, x, i, more)
		wantTable(t, kinds(t, other), kinds(t, x), x, i, more)
	}
}

// P6.14: the order of rows, and that of columns.
func TestTablesInAnotherOrder(t *testing.T) {
	var d die
	for range 300 {
		x := d.great()
		other, rows, columns := copied(x), d.order(len(x)), d.order(len(x[0]))
		for i := range x {
			for j := range x[i] {
				other[i][j] = x[rows[i]][columns[j]]
			}
		}
		_, before := cheapestOf(t, x)
		_, now := cheapestOf(t, other)
		want(t, now, before, x, rows, columns)
		k, l := kinds(t, x), kinds(t, other)
		for i := range l {
			for j := range l[i] {
				want(t, l[i][j], k[rows[i]][columns[j]], x, rows, columns)
			}
		}
		_, second, e := plate.Second(x)
		_, third, f := plate.Second(other)
		want(t, f, e, x)
		want(t, third, second, x, rows, columns)
	}
}

// P6.14: with greater costs no cheapest pairing costs less, with one more column none costs more.
func TestGreaterCostsAndMoreColumns(t *testing.T) {
	var d die
	for range 1000 {
		x := d.great()
		_, before := cheapestOf(t, x)
		other := copied(x)
		for range d.roll(1, 5) {
			n := &other[d.index(len(x))][d.index(len(x[0]))]
			*n = d.roll(*n, min(*n*2+1, api.MaxPlateCost))
		}
		_, now := cheapestOf(t, other)
		want(t, now >= before, true, x, other)
		if len(x[0]) == 10 {
			continue
		}
		at := d.index(len(x[0]) + 1)
		for i := range x {
			x[i] = slices.Insert(x[i], at, d.roll(0, slices.Max(x[i])))
		}
		_, now = cheapestOf(t, x)
		want(t, now <= before, true, x)
	}
}
