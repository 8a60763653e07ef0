package plate_test

import (
	"iter"
	"slices"
	"testing"

	"forecourt/api"
	"forecourt/plate"
)

const (
	least = -1 << 63
	most  = 1<<63 - 1

	letters = "ABCDEFGHIJKLMNOPQRSTUVWXYZ0123456789"
)

// of returns a list of numbers, row one of costs or prices, reg one of plates, match one of pairs.
func of(x ...int) []int              { return x }
func row(x ...int64) []int64         { return x }
func reg(plates ...string) []string  { return plates }
func match(pairs ...[2]int) [][2]int { return pairs }

// alike returns a pair of letters with its cost.
func alike(pair string, cost int64) api.PlateAlike {
	return api.PlateAlike{One: pair[0], Two: pair[1], Cost: cost}
}

// book returns a book.
func book(skip int64, list ...api.PlateAlike) api.PlateBook {
	return api.PlateBook{Alike: list, Skip: skip}
}

// prices returns prices.
func prices(rows, columns []int64) api.PlatePrices {
	return api.PlatePrices{Rows: rows, Columns: columns}
}

// chapter returns B of the chapter, table T.
func chapter() api.PlateBook {
	return book(3, alike("B8", 1), alike("O0", 1), alike("I1", 1), alike("OQ", 2))
}

func table() [][]int64 { return [][]int64{row(4, 1, 3), row(2, 0, 5)} }

// copied returns a table in other memory.
func copied(t [][]int64) [][]int64 {
	var other [][]int64
	for _, list := range t {
		other = append(other, slices.Clone(list))
	}
	return other
}

// has reports whether a letter is one of both of a pair, common whether two pairs have a letter in common.
func has(a api.PlateAlike, letter byte) bool { return a.One == letter || a.Two == letter }
func common(a, b api.PlateAlike) bool        { return has(a, b.One) || has(a, b.Two) }

// chains returns the least cost of a chain that goes on from a list of pairs, none of which
// comes again, to a letter, or so much as was found up to now.
func chains(b api.PlateBook, list []int, cost int64, to byte, found int64) int64 {
	last := b.Alike[list[len(list)-1]]
	if has(last, to) {
		found = min(found, cost)
	}
	for i, a := range b.Alike {
		if !slices.Contains(list, i) && common(a, last) {
			found = chains(b, append(slices.Clone(list), i), cost+a.Cost, to, found)
		}
	}
	return found
}

// letterByChains returns what a letter costs by the definition. It looks at all chains.
func letterByChains(b api.PlateBook, one, two byte) int64 {
	if one == two {
		return 0
	}
	found := 2 * b.Skip
	for i, a := range b.Alike {
		if has(a, one) {
			found = chains(b, of(i), a.Cost, two, found)
		}
	}
	return found
}

// costs are what letters cost for each other.
type costs [128][128]int64

// costsOf returns what all letters cost, by way of each one after another.
func costsOf(b api.PlateBook) *costs {
	c := &costs{}
	for _, one := range []byte(letters) {
		for _, two := range []byte(letters) {
			c[one][two] = 2 * b.Skip
		}
		c[one][one] = 0
	}
	for _, a := range b.Alike {
		c[a.One][a.Two] = min(c[a.One][a.Two], a.Cost)
		c[a.Two][a.One] = min(c[a.Two][a.One], a.Cost)
	}
	for _, by := range []byte(letters) {
		for _, one := range []byte(letters) {
			for _, two := range []byte(letters) {
				c[one][two] = min(c[one][two], c[one][by]+c[by][two])
			}
		}
	}
	return c
}

// matchCost returns what a list of pairs costs, and whether it is a match, by the definition.
func matchCost(skip int64, c *costs, one, two string, list [][2]int) (int64, bool) {
	var sum int64
	var ones, twos []int
	for _, pair := range list {
		if pair[0] != -1 {
			ones = append(ones, pair[0])
		}
		if pair[1] != -1 {
			twos = append(twos, pair[1])
		}
		if pair == [2]int{-1, -1} {
			return 0, false
		}
	}
	if !slices.Equal(ones, upTo(len(one))) || !slices.Equal(twos, upTo(len(two))) {
		return 0, false
	}
	for _, pair := range list {
		if pair[0] == -1 || pair[1] == -1 {
			sum += skip
		} else {
			sum += c[one[pair[0]]][two[pair[1]]]
		}
	}
	return sum, true
}

// upTo returns the numbers from 0 to n - 1.
func upTo(n int) []int {
	var list []int
	for i := range n {
		list = append(list, i)
	}
	return list
}

// matches returns all matches of plates of these lengths that begin with a list up to two indexes.
func matches(i, j, one, two int, list [][2]int) [][][2]int {
	if i == one && j == two {
		return [][][2]int{list}
	}
	var all [][][2]int
	on := func(di, dj int, pair [2]int) {
		if i+di <= one && j+dj <= two {
			all = append(all, matches(i+di, j+dj, one, two, append(slices.Clone(list), pair))...)
		}
	}
	on(1, 1, [2]int{i, j})
	on(1, 0, [2]int{i, -1})
	on(0, 1, [2]int{-1, j})
	return all
}

// far returns the distance of two plates, from that of their ends.
func far(skip int64, c *costs, one, two string, known map[[2]string]int64) int64 {
	if one == "" || two == "" {
		return skip * int64(len(one)+len(two))
	}
	if n, ok := known[[2]string{one, two}]; ok {
		return n
	}
	n := min(
		far(skip, c, one[1:], two[1:], known)+c[one[0]][two[0]],
		far(skip, c, one[1:], two, known)+skip,
		far(skip, c, one, two[1:], known)+skip,
	)
	known[[2]string{one, two}] = n
	return n
}

// distances returns a function that returns distances by a book.
func distances(b api.PlateBook) func(one, two string) int64 {
	c := costsOf(b)
	return func(one, two string) int64 { return far(b.Skip, c, one, two, map[[2]string]int64{}) }
}

// pairings yields all pairings of so many rows and columns. The list is used again.
func pairings(rows, columns int) iter.Seq[[]int] {
	return func(yield func([]int) bool) {
		var list []int
		var on func() bool
		on = func() bool {
			if len(list) == rows {
				return yield(list)
			}
			for column := range columns {
				if slices.Contains(list, column) {
					continue
				}
				list = append(list, column)
				goes := on()
				list = list[:len(list)-1]
				if !goes {
					return false
				}
			}
			return true
		}
		on()
	}
}

// cost returns what a pairing costs.
func cost(t [][]int64, pairing []int) int64 {
	var sum int64
	for i, column := range pairing {
		sum += t[i][column]
	}
	return sum
}

// cheapest returns what a cheapest one of the pairings costs whose pairs are allowed, and how many such
// cheapest ones there are. It goes through the rows, and keeps what all sets of columns cost.
func cheapest(t [][]int64, allowed func(i, j int) bool) (int64, int64) {
	costs, counts := map[int]int64{0: 0}, map[int]int64{0: 1}
	for i := range t {
		nextCosts, nextCounts := map[int]int64{}, map[int]int64{}
		for set, c := range costs {
			for j, n := range t[i] {
				if set>>j&1 == 1 || !allowed(i, j) {
					continue
				}
				s := set | 1<<j
				if before, ok := nextCosts[s]; !ok || c+n < before {
					nextCosts[s], nextCounts[s] = c+n, 0
				}
				if c+n == nextCosts[s] {
					nextCounts[s] += counts[set]
				}
			}
		}
		costs, counts = nextCosts, nextCounts
	}
	best, count := int64(most), int64(0)
	for set, c := range costs {
		if c < best {
			best, count = c, 0
		}
		if c == best {
			count += counts[set]
		}
	}
	return best, count
}

func all(i, j int) bool { return true }

// kindsOf returns the kinds by the definition, from how many cheapest pairings have each pair.
func kindsOf(t [][]int64) [][]int {
	best, count := cheapest(t, all)
	var kinds [][]int
	for i := range t {
		var list []int
		for j := range t[i] {
			c, n := cheapest(t, func(k, l int) bool { return (k == i) == (l == j) })
			switch {
			case c != best:
				list = append(list, api.PlateNever)
			case n != count:
				list = append(list, api.PlateMay)
			default:
				list = append(list, api.PlateAlways)
			}
		}
		kinds = append(kinds, list)
	}
	return kinds
}

// The following return what functions return that are to return no error.

func distance(t *testing.T, b api.PlateBook, one, two string) int64 {
	t.Helper()
	n, e := plate.Distance(b, one, two)
	want(t, e, api.OK, b, one, two)
	return n
}

func near(t *testing.T, b api.PlateBook, register []string, read string, most int64) []int {
	t.Helper()
	l, e := plate.Near(b, register, read, most)
	want(t, e, api.OK, b, register, read, most)
	return l
}

func apart(t *testing.T, b api.PlateBook, register []string) ([2]int, int64) {
	t.Helper()
	two, n, e := plate.Apart(b, register)
	want(t, e, api.OK, b, register)
	return two, n
}

func cheapestOf(t *testing.T, x [][]int64) ([]int, int64) {
	t.Helper()
	pairing, n, e := plate.Cheapest(x)
	want(t, e, api.OK, x)
	return pairing, n
}

func kinds(t *testing.T, x [][]int64) [][]int {
	t.Helper()
	k, e := plate.Kinds(x)
	want(t, e, api.OK, x)
	want(t, len(k), len(x), x)
	return k
}

// die gives numbers in a fixed order that looks like none.
type die uint64

func (d *die) roll(lo, hi int64) int64 {
	*d = *d*6364136223846793005 + 1442695040888963407
	return lo + int64(uint64(*d>>33)%uint64(hi-lo+1))
}

func (d *die) index(n int) int { return int(d.roll(0, int64(n)-1)) }

// letter returns one of the first n letters that were shuffled, so that digits are among a few.
func (d *die) letter(n int) byte { return letters[d.index(n)*7%len(letters)] }

// plate returns a plate of up to so many of the first n letters.
func (d *die) plate(long, n int) string {
	var s []byte
	for range d.roll(1, int64(long)) {
		s = append(s, d.letter(n))
	}
	return string(s)
}

// plates returns so many plates.
func (d *die) plates(count, long, n int) []string {
	var list []string
	for range count {
		list = append(list, d.plate(long, n))
	}
	return list
}

// book returns a book with so many pairs of the first n letters, and costs up to a greatest one.
func (d *die) book(pairs, n int, greatest int64) api.PlateBook {
	b := book(d.roll(0, greatest))
	for len(b.Alike) < pairs {
		a := api.PlateAlike{One: d.letter(n), Two: d.letter(n), Cost: d.roll(0, greatest)}
		if a.One != a.Two {
			b.Alike = append(b.Alike, a)
		}
	}
	return b
}

// table returns a table with so many rows and columns, and costs up to a greatest one.
func (d *die) table(rows, columns int, greatest int64) [][]int64 {
	var t [][]int64
	for range rows {
		var list []int64
		for range columns {
			list = append(list, d.roll(0, greatest))
		}
		t = append(t, list)
	}
	return t
}

// small returns a table that is small enough to look at all pairings, with few different costs.
func (d *die) small() [][]int64 {
	rows := int(d.roll(1, 4))
	return d.table(rows, int(d.roll(int64(rows), 5)), d.roll(1, 9))
}

// great returns a table of up to the greatest size.
func (d *die) great() [][]int64 {
	rows := int(d.roll(1, 8))
	return d.table(rows, int(d.roll(int64(rows), 10)), row(3, 20, api.MaxPlateCost)[d.index(3)])
}

// order returns the numbers from 0 to n - 1 in some order.
func (d *die) order(n int) []int {
	list := upTo(n)
	for i := range list {
		j := i + d.index(n-i)
		list[i], list[j] = list[j], list[i]
	}
	return list
}

// want fails the test if a result is not as it is to be.
func want[T comparable](t *testing.T, got, wanted T, about ...any) {
	t.Helper()
	if got != wanted {
		t.Fatalf("%v: got %v, want %v", about, got, wanted)
	}
}

// wantList fails the test if a list is not as it is to be.
func wantList[T comparable](t *testing.T, got, wanted []T, about ...any) {
	t.Helper()
	if !slices.Equal(got, wanted) {
		t.Fatalf("%v: got %v, want %v", about, got, wanted)
	}
}

// wantTable fails the test if a table is not as it is to be.
func wantTable[T comparable](t *testing.T, got, wanted [][]T, about ...any) {
	t.Helper()
	if !slices.EqualFunc(got, wanted, slices.Equal[[]T]) {
		t.Fatalf("%v: got %v, want %v", about, got, wanted)
	}
}
