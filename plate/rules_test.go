package plate_test

import (
	"reflect"
	"slices"
	"testing"

	"forecourt/api"
	"forecourt/plate"
)

// given is arguments for all functions of the package.
type given struct {
	b                       api.PlateBook
	one, two                byte
	read, other             string
	match                   [][2]int
	register, rows, columns []string
	most                    int64
	t                       [][]int64
	pairing                 []int
	p                       api.PlatePrices
}

// results calls all functions of the package, and returns all that they return.
func results(g given) []any {
	var l []any
	add := func(more ...any) { l = append(l, more...) }
	two := func(x any, e api.Errno) { add(x, e) }
	three := func(x any, n int64, e api.Errno) { add(n, x, e) }
	add(plate.CheckBook(g.b))
	two(plate.Letter(g.b, g.one, g.two))
	two(plate.Distance(g.b, g.read, g.other))
	two(plate.Match(g.b, g.read, g.other))
	two(plate.CheckMatch(g.b, g.read, g.other, g.match))
	two(plate.Near(g.b, g.register, g.read, g.most))
	nearest, n, e := plate.Apart(g.b, g.register)
	three(nearest, n, e)
	two(plate.Table(g.b, g.rows, g.columns))
	two(plate.CheckPairing(g.t, g.pairing))
	pairing, n, e := plate.Cheapest(g.t)
	three(pairing, n, e)
	two(plate.Prices(g.t))
	two(plate.CheckPrices(g.t, g.p))
	two(plate.Kinds(g.t))
	pairing, n, e = plate.Second(g.t)
	three(pairing, n, e)
	return l
}

// copied returns equal arguments in other memory.
func (g given) copied() given {
	g.b.Alike, g.match, g.register = slices.Clone(g.b.Alike), slices.Clone(g.match), slices.Clone(g.register)
	g.rows, g.columns, g.pairing = slices.Clone(g.rows), slices.Clone(g.columns), slices.Clone(g.pairing)
	g.p = prices(slices.Clone(g.p.Rows), slices.Clone(g.p.Columns))
	g.t = copied(g.t)
	return g
}

// given returns arguments that are valid.
func (d *die) given() given {
	n := int(d.roll(2, 36))
	g := given{b: d.book(int(d.roll(1, 20)), n, 9), one: d.letter(n), two: d.letter(n), read: d.plate(10, n), other: d.plate(10, n), most: d.roll(0, 30)}
	g.match, _ = plate.Match(g.b, g.read, g.other)
	g.register = d.plates(int(d.roll(2, 6)), 10, n)
	g.rows = d.plates(int(d.roll(1, 4)), 10, n)
	g.columns = d.plates(int(d.roll(4, 6)), 10, n)
	g.t = d.table(int(d.roll(1, 4)), int(d.roll(4, 6)), 9)
	g.pairing, _, _ = plate.Cheapest(g.t)
	g.p, _ = plate.Prices(g.t)
	return g
}

// numbers returns where the numbers of arguments are: costs, and indexes.
func (g *given) numbers() (costs []*int64, indexes []*int) {
	costs = []*int64{&g.b.Skip, &g.most}
	for i := range g.b.Alike {
		costs = append(costs, &g.b.Alike[i].Cost)
	}
	for _, list := range append(slices.Clone(g.t), g.p.Rows, g.p.Columns) {
		for i := range list {
			costs = append(costs, &list[i])
		}
	}
	for i := range g.match {
		indexes = append(indexes, &g.match[i][0], &g.match[i][1])
	}
	for i := range g.pairing {
		indexes = append(indexes, &g.pairing[i])
	}
	return costs, indexes
}

// texts returns where the plates of arguments are.
func (g *given) texts() []*string {
	list := []*string{&g.read, &g.other}
	for _, register := range [][]string{g.register, g.rows, g.columns} {
		for i := range register {
			list = append(list, &register[i])
		}
	}
	return list
}

// P1: with numbers of any size, any bytes and lists of any length nothing panics, and all calls end.
func TestAnyArguments(t *testing.T) {
	odd := []int64{
		least, least + 1, -1 << 40, -1<<40 - 1, -1001, -1000, -2, -1, 0, 1, 2, 3, 9, 10, 11, 999, 1000, 1001,
		999999, 1000000, 1000001, 1<<40 - 1, 1 << 40, 1<<40 + 1, 1 << 62, most - 1, most,
	}
	words := []string{"", "a", "A", "9", "\x00", "\xff\xfe", "Ä", "AAAAAAAAAA", "AAAAAAAAAAA", "A B"}
	var d die
	pick := func() int64 { return odd[d.index(len(odd))] }
	for range 5000 {
		g := d.given()
		costs, indexes := g.numbers()
		for range d.roll(0, 2) {
			*costs[d.index(len(costs))] = pick()
			*indexes[d.index(len(indexes))] = int(pick())
		}
		texts := g.texts()
		for range d.roll(0, 1) {
			*texts[d.index(len(texts))] = words[d.index(len(words))]
			g.one, g.b.Alike[0].One = byte(pick()), byte(d.roll(0, 255))
		}
		switch d.roll(0, 8) {
		case 0:
			g.t[d.index(len(g.t))] = nil
		case 1:
			g.t, g.rows = append(g.t, g.t...), append(g.rows, g.columns...)
		case 2:
			g.p.Rows, g.p.Columns, g.pairing = g.p.Columns, g.p.Rows, append(g.pairing, g.pairing...)
		case 3:
			g.match, g.read = append(g.match, g.match...), g.other
		}
		results(g)
	}
}

// P1: arguments at and above their limits.
func TestGreatestArguments(t *testing.T) {
	var d die
	for range 5 {
		g := given{b: d.book(40, 36, 1000), one: 'A', two: '9', read: "ABCDEFGHIJ", other: "0123456789", most: most}
		g.match, _ = plate.Match(g.b, g.read, g.other)
		g.register = d.plates(30, 10, 36)
		g.rows, g.columns = g.register[:8], g.register[:10]
		g.t, g.pairing = d.table(8, 10, api.MaxPlateCost), d.order(10)[:8]
		g.p, _ = plate.Prices(g.t)
		results(g)
		g.match, g.pairing, g.p = make([][2]int, 1<<16), make([]int, 1<<16), prices(make([]int64, 1<<16), make([]int64, 1<<16))
		g.register, g.rows = slices.Repeat(g.register, 1000), slices.Repeat(g.register, 1000)
		results(g)
		g.t = slices.Repeat(g.t, 1000)
		results(g)
		g.b.Alike = slices.Repeat(g.b.Alike, 1000)
		results(g)
	}
}

// R4, R5 and R10: no argument is changed, also behind its end, nothing is kept of it, and equal calls return equal results.
func TestArgumentsStay(t *testing.T) {
	var d die
	for range 300 {
		g := d.given()
		g.b.Alike = append(g.b.Alike, alike("XY", 77))[:len(g.b.Alike)]
		g.register = append(g.register, "BEHIND")[:len(g.register)]
		g.rows = append(g.rows, "BEHIND")[:len(g.rows)]
		g.match = append(g.match, [2]int{7, 7})[:len(g.match)]
		g.pairing = append(g.pairing, 77)[:len(g.pairing)]
		g.p.Rows = append(g.p.Rows, 77)[:len(g.p.Rows)]
		other := g.copied()
		wanted := results(other)
		for range 3 {
			if got := results(g); !reflect.DeepEqual(got, wanted) {
				t.Fatal(g, got, wanted)
			}
			results(d.given())
		}
		if !reflect.DeepEqual(g, other) {
			t.Fatal(g, other)
		}
		want(t, g.b.Alike[:len(g.b.Alike)+1][len(g.b.Alike)], alike("XY", 77), g)
		want(t, g.register[:len(g.register)+1][len(g.register)], "BEHIND", g)
		want(t, g.rows[:len(g.rows)+1][len(g.rows)], "BEHIND", g)
		want(t, g.match[:len(g.match)+1][len(g.match)], [2]int{7, 7}, g)
		want(t, g.pairing[:len(g.pairing)+1][len(g.pairing)], 77, g)
		want(t, g.p.Rows[:len(g.p.Rows)+1][len(g.p.Rows)], 77, g)
	}
}

// wipe writes into a list, and behind it.
func wipe(x any) {
	switch list := x.(type) {
	case []int64:
		clear(list[:cap(list)])
	case []int:
		clear(list[:cap(list)])
	case [][2]int:
		clear(list[:cap(list)])
	case [][]int64:
		for _, row := range list {
			wipe(row)
		}
	case [][]int:
		for _, row := range list {
			wipe(row)
		}
	case api.PlatePrices:
		wipe(list.Rows)
		wipe(list.Columns)
	}
}

// R5: what is written into a result, or behind it, is seen nowhere else.
func TestResultsAreNewMemory(t *testing.T) {
	var d die
	for range 30 {
		g := d.given()
		before := g.copied()
		wanted := results(g)
		for i, result := range results(g) {
			again := results(g)
			wipe(result)
			if !reflect.DeepEqual(again, wanted) {
				t.Fatal(i, again, wanted)
			}
		}
		if got := results(g); !reflect.DeepEqual(got, wanted) || !reflect.DeepEqual(g, before) {
			t.Fatal(got, wanted)
		}
	}
}

// R5: the rows of a result share no memory, nor do the prices of rows and columns.
func TestRowsShareNoMemory(t *testing.T) {
	var d die
	for range 30 {
		g := d.given()
		g.t = d.table(3, 4, 2)
		k := kinds(t, g.t)
		wipe(k[0])
		wantTable(t, k[1:], kinds(t, g.t)[1:], g.t)
		list, e := plate.Table(g.b, g.columns[:3], g.columns)
		want(t, e, api.OK, g)
		others := copied(list[1:])
		wipe(list[0])
		wantTable(t, list[1:], others, g)
		p, e := plate.Prices(g.t)
		want(t, e, api.OK, g)
		columns := slices.Clone(p.Columns)
		wipe(p.Rows)
		wantList(t, p.Columns, columns, g)
	}
}

// R2: with an error all else is zero.
func TestNothingWithErrors(t *testing.T) {
	var d die
	for range 500 {
		g := d.given()
		switch d.roll(0, 5) {
		case 0:
			g.b.Skip = -1
		case 1:
			g.t[0][0] = -1
		case 2:
			g.read, g.register[0], g.rows[0], g.one = "", "", "", '!'
		case 3:
			g.register, g.rows, g.most = g.register[:1], g.columns[:0], -1
		case 4:
			g.match, g.pairing, g.p.Rows = nil, nil, nil
		case 5:
			g.pairing[0], g.p.Rows[0], g.t = -1, g.p.Rows[0]+9, [][]int64{row(1)}
		}
		l := results(g)
		for i, x := range l {
			if e, ok := x.(api.Errno); !ok || e == api.OK {
				continue
			}
			for j := i - 1; j >= 0; j-- {
				if _, ok := l[j].(api.Errno); ok {
					break
				}
				want(t, isNothing(l[j]), true, g, i)
			}
		}
	}
}

// isNothing reports whether a result is zero, or an empty list.
func isNothing(x any) bool {
	v := reflect.ValueOf(x)
	if v.Kind() == reflect.Slice {
		return v.Len() == 0
	}
	return v.IsZero()
}

// R3: a nil list and an empty one are the same.
func TestNilAndEmpty(t *testing.T) {
	one := given{b: book(3), one: 'A', two: 'B', read: "A", other: "B"}
	two := one
	two.b.Alike, two.match, two.register, two.rows, two.columns = []api.PlateAlike{}, [][2]int{}, []string{}, []string{}, []string{}
	two.t, two.pairing, two.p = [][]int64{}, []int{}, prices([]int64{}, []int64{})
	if a, b := results(one), results(two); !reflect.DeepEqual(a, b) {
		t.Error(a, b)
	}
	one.t, two.t = [][]int64{nil}, [][]int64{{}}
	if a, b := results(one), results(two); !reflect.DeepEqual(a, b) {
		t.Error(a, b)
	}
	one.t, two.t = table(), table()
	if a, b := results(one), results(two); !reflect.DeepEqual(a, b) {
		t.Error(a, b)
	}
}
