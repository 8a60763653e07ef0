package plate_test

import (
	"slices"
	"strings"
	"testing"

	"forecourt/api"
	"forecourt/plate"
)

// checkDistance fails the test if Distance is not as it is to be, or if Match does not return a match that costs it.
func checkDistance(t *testing.T, b api.PlateBook, one, two string, wanted int64) {
	t.Helper()
	want(t, distance(t, b, one, two), wanted, b, one, two)
	list, e := plate.Match(b, one, two)
	want(t, e, api.OK, b, one, two)
	n, found := matchCost(b.Skip, costsOf(b), one, two, list)
	want(t, found, true, b, one, two, list)
	want(t, n, wanted, b, one, two, list)
	n, e = plate.CheckMatch(b, one, two, list)
	want(t, e, api.OK, b, one, two, list)
	want(t, n, wanted, b, one, two, list)
}

// P6.3
func TestDistance(t *testing.T) {
	long := strings.Repeat("A", 10)
	for _, x := range []struct {
		b        api.PlateBook
		one, two string
		wanted   int64
	}{
		{chapter(), "A", "A", 0},
		{chapter(), "A", "B", 6},
		{chapter(), "B", "8", 1},
		{chapter(), "QB", "O8", 3},
		{chapter(), "AB", "BA", 6},   // a letter missed, and one seen
		{chapter(), "B0", "0B", 6},   // not 12 for both
		{chapter(), "BX8", "8XB", 2}, // not 6
		{chapter(), "ABC", "AC", 3},
		{chapter(), "AC", "ABC", 3},
		{chapter(), "ABCDEFGHIJ", "CDEFGHIJKL", 12},
		{chapter(), "A", "BCDEFGHIJK", 33},
		{chapter(), "8", "ACDEFGHIJB", 28},
		{book(0), "ABC", "XYZQ", 0},
		{book(0, alike("AB", 9)), "A", "B", 0},
		{book(1000), long, strings.Repeat("B", 10), 20000},
		{book(1000), long, "B", 11000},
		{book(1000), long, "A", 9000},
		{book(1000, alike("AB", 1000)), long, strings.Repeat("B", 10), 10000},
		{book(1000, alike("AB", 0)), "AAAAABBBBB", "BBBBBBBBBA", 0},
		{book(5, alike("AB", 9)), "AB", "BA", 10},
		{book(5, alike("AB", 4)), "AB", "BA", 8},
	} {
		checkDistance(t, x.b, x.one, x.two, x.wanted)
		checkDistance(t, x.b, x.two, x.one, x.wanted)
	}
}

// P6.3: of all matches of short plates none costs less than the distance, and some one costs just this.
func TestDistanceByAllMatches(t *testing.T) {
	var d die
	for range 1500 {
		n := int(d.roll(2, 5))
		b := d.book(int(d.roll(0, 5)), n, 9)
		one, two := d.plate(4, n), d.plate(4, n)
		c, wanted := costsOf(b), int64(most)
		for _, list := range matches(0, 0, len(one), len(two), nil) {
			n, found := matchCost(b.Skip, c, one, two, list)
			want(t, found, true, one, two, list)
			got, e := plate.CheckMatch(b, one, two, list)
			want(t, e, api.OK, b, one, two, list)
			want(t, got, n, b, one, two, list)
			wanted = min(wanted, n)
		}
		checkDistance(t, b, one, two, wanted)
	}
}

// P6.3: plates of up to 10 letters, books of the greatest size.
func TestDistanceOfLongPlates(t *testing.T) {
	var d die
	for range 60 {
		n := int(d.roll(2, 36))
		b := d.book(int(d.roll(0, 40)), n, row(9, 1000)[d.index(2)])
		far := distances(b)
		for range 10 {
			one, two := d.plate(10, n), d.plate(10, n)
			checkDistance(t, b, one, two, far(one, two))
		}
	}
}

// P6.3: lists that are matches, and lists that are none.
func TestCheckMatch(t *testing.T) {
	both := func(n int) [2]int { return [2]int{n, n} }
	for _, x := range []struct {
		list   [][2]int
		wanted int64
		e      api.Errno
	}{
		{match(both(0), both(1), both(2)), 6, api.OK},
		{match([2]int{0, -1}, [2]int{1, 0}, [2]int{2, 1}, [2]int{-1, 2}), 18, api.OK},
		{match([2]int{-1, 0}, [2]int{0, -1}, both(1), both(2)), 6, api.OK},
		{match([2]int{0, -1}, [2]int{1, -1}, [2]int{2, -1}, [2]int{-1, 0}, [2]int{-1, 1}, [2]int{-1, 2}), 18, api.OK},
		{nil, 0, api.ErrRule},
		{match(both(0), both(1)), 0, api.ErrRule},                               // ends before both
		{match(both(0), both(1), [2]int{2, -1}), 0, api.ErrRule},                // ends before one of both
		{match(both(0), both(1), [2]int{-1, 2}), 0, api.ErrRule},                // ends before the other one
		{match(both(0), both(1), both(2), both(3)), 0, api.ErrRule},             // goes on behind them
		{match(both(0), both(1), both(2), [2]int{3, -1}), 0, api.ErrRule},       // behind one of both
		{match(both(0), both(1), both(2), [2]int{-1, 3}), 0, api.ErrRule},       // behind the other one
		{match(both(0), both(1), both(2), both(-1)), 0, api.ErrRule},            // a pair of none
		{match(both(-1), both(0), both(1), both(2)), 0, api.ErrRule},            // at the beginning
		{match(both(0), both(0), both(1), both(2)), 0, api.ErrRule},             // twice
		{match(both(0), both(2), both(1)), 0, api.ErrRule},                      // not increasing
		{match(both(0), [2]int{1, 2}, [2]int{2, 1}), 0, api.ErrRule},            // one of both is not
		{match(both(0), [2]int{2, -1}, both(1), [2]int{-1, 2}), 0, api.ErrRule}, // nor here
		{match(both(0), both(2)), 0, api.ErrRule},                               // one left out
		{match(both(0), [2]int{1, -1}, [2]int{2, 2}), 0, api.ErrRule},           // one of one plate left out
		{match(both(0), both(1), [2]int{2, -2}, [2]int{-1, 2}), 0, api.ErrRule}, // -2
		{match(both(0), both(1), [2]int{-2, 2}, [2]int{2, -1}), 0, api.ErrRule}, // -2
		{match(both(0), both(1), [2]int{2, least}), 0, api.ErrRule},
		{match(both(0), both(1), [2]int{most, 2}), 0, api.ErrRule},
		{match(both(1), both(2)), 0, api.ErrRule},
		{make([][2]int, 5000), 0, api.ErrRule},
		{slices.Repeat(match([2]int{-1, -1}), 6), 0, api.ErrRule},
		{append(match(both(0), both(1), both(2)), both(0)), 0, api.ErrRule},
		{append(match(both(0), both(1), both(2)), [2]int{0, -1}), 0, api.ErrRule},
	} {
		n, e := plate.CheckMatch(chapter(), "AB1", "XB1", x.list)
		want(t, e, x.e, x)
		want(t, n, x.wanted, x)
	}
	n, e := plate.CheckMatch(chapter(), "B", "8", match([2]int{0, 0}))
	want(t, e, api.OK)
	want(t, n, 1)
	n, e = plate.CheckMatch(chapter(), "B", "8", match([2]int{-1, 0}, [2]int{0, -1}))
	want(t, e, api.OK)
	want(t, n, 6)
	n, e = plate.CheckMatch(chapter(), "B", "8", match([2]int{0, 0}, [2]int{0, 0}))
	want(t, e, api.ErrRule)
	want(t, n, 0)
}

// P6.3: any lists of pairs, and matches with a change, by the definition.
func TestCheckMatchByDefinition(t *testing.T) {
	var d die
	counts := map[bool]int{}
	for range 1000 {
		b := d.book(int(d.roll(0, 3)), 3, 5)
		one, two := d.plate(3, 3), d.plate(3, 3)
		c, all := costsOf(b), matches(0, 0, len(one), len(two), nil)
		for range 20 {
			list := d.changed(all[d.index(len(all))])
			wanted, found := matchCost(b.Skip, c, one, two, list)
			n, e := plate.CheckMatch(b, one, two, list)
			want(t, e == api.OK, found, b, one, two, list)
			want(t, e == api.ErrRule, !found, b, one, two, list)
			want(t, n, wanted, b, one, two, list)
			counts[found]++
		}
	}
	if counts[true] < 5000 || counts[false] < 5000 {
		t.Error(counts)
	}
}

// changed returns a match in other memory, with a change or without one.
func (d *die) changed(list [][2]int) [][2]int {
	list = slices.Clone(list)
	switch i := d.index(len(list)); d.roll(0, 5) {
	case 0:
		list[i][d.index(2)] = int(d.roll(-2, 4))
	case 1:
		list = slices.Delete(list, i, i+1)
	case 2:
		list = slices.Insert(list, i, [2]int{int(d.roll(-1, 3)), int(d.roll(-1, 3))})
	case 3:
		j := d.index(len(list))
		list[i], list[j] = list[j], list[i]
	}
	return list
}
