package plate_test

import (
	"testing"

	"forecourt/api"
	"forecourt/plate"
)

// The examples of the chapter with B.
func TestExamplesOfPlates(t *testing.T) {
	b, register := chapter(), reg("A81", "B0", "80")
	for _, x := range []struct {
		one, two byte
		cost     int64
	}{{'0', 'Q', 3}, {'A', 'B', 6}} {
		n, e := plate.Letter(b, x.one, x.two)
		want(t, e, api.OK)
		want(t, n, x.cost)
	}
	want(t, distance(t, b, "B0", "8Q"), 4)
	want(t, distance(t, b, "AB1", "A81I"), 4)
	n, e := plate.CheckMatch(b, "AB1", "A81I", match([2]int{0, 0}, [2]int{1, 1}, [2]int{2, 2}, [2]int{-1, 3}))
	want(t, e, api.OK)
	want(t, n, 4)
	n, e = plate.CheckMatch(b, "AB1", "A81I", match([2]int{0, 0}, [2]int{1, 1}, [2]int{-1, 2}, [2]int{2, 3}))
	want(t, e, api.OK)
	want(t, n, 5)
	wantList(t, near(t, b, register, "BO", 1), of(1))
	wantList(t, near(t, b, register, "BO", 2), of(1, 2))
	two, n := apart(t, b, register)
	want(t, two, [2]int{1, 2})
	want(t, n, 1)
}

// The examples of the chapter with T.
func TestExamplesOfTables(t *testing.T) {
	_, n := cheapestOf(t, table())
	want(t, n, 3)
	wantTable(t, kinds(t, table()), [][]int{of(0, 1, 1), of(1, 1, 0)})
	n, e := plate.CheckPrices(table(), prices(row(3, 2), row(0, -2, 0)))
	want(t, e, api.OK)
	want(t, n, 3)
	n, e = plate.CheckPrices(table(), prices(row(3, 3), row(0, -2, 0)))
	want(t, e, api.ErrSum)
	want(t, n, 0)
	_, n, e = plate.Second(table())
	want(t, e, api.OK)
	want(t, n, 3)
}

// DOC.md's example 6: two pairings of the table cost 3.
func TestTwoPairingsOfTheTableCostThree(t *testing.T) {
	found := 0
	for pairing := range pairings(2, 3) {
		n, e := plate.CheckPairing(table(), pairing)
		want(t, e, api.OK, pairing)
		want(t, n >= 3, true, pairing)
		if n == 3 {
			found++
		}
	}
	want(t, found, 2)
}
