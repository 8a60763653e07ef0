package plate_test

import (
	"slices"
	"strings"
	"testing"

	"forecourt/api"
	"forecourt/plate"
)

// bytesThatAreNone are bytes beside letters, and others.
const bytesThatAreNone = "/:@[`az{ -\x00\x7f\x80\xff"

// many returns so many equal pairs.
func many(n int, a api.PlateAlike) []api.PlateAlike { return slices.Repeat([]api.PlateAlike{a}, n) }

// books are books with the error of CheckBook. If several errors apply, the one that is named first is returned.
func books() map[api.Errno][]api.PlateBook {
	small, same := alike("aB", 1), alike("BB", 1)
	return map[api.Errno][]api.PlateBook{
		api.OK: {
			book(0), book(1000), book(3, alike("A9", 0)), book(3, alike("Z0", 1000)), chapter(),
			book(0, many(40, alike("AB", 1000))...), book(5, alike("AB", 1), alike("AB", 2), alike("BA", 3)),
		},
		api.ErrMany: {
			book(3, many(41, alike("AB", 1))...), book(-1, many(41, alike("ab", -1))...), book(3, many(5000, same)...),
		},
		api.ErrForm: {
			book(3, small), book(3, alike("Ba", 1)), book(3, alike("aa", 1)), book(-1, alike("AB", -1), small),
			book(3, same, alike("AB", 1), small), book(3, alike("a9", 1001)), book(3, api.PlateAlike{Cost: 1}),
		},
		api.ErrArg: {
			book(3, same), book(3, alike("AB", 1), alike("99", 1)), book(3, alike("AB", -1)), book(3, alike("AB", 1001)),
			book(-1), book(1001), book(least), book(most), book(3, alike("AB", least)), book(3, alike("AB", 1), alike("AB", most)),
			book(3, append(many(39, alike("AB", 1)), alike("CD", -1))...),
		},
	}
}

// P6.1
func TestCheckBook(t *testing.T) {
	for wanted, list := range books() {
		for _, b := range list {
			want(t, plate.CheckBook(b), wanted, b)
		}
	}
	for _, letter := range []byte(letters) {
		other := alike("AB", 1)
		other.One = letter
		want(t, plate.CheckBook(book(3, other)), map[bool]api.Errno{true: api.ErrArg}[letter == 'B'], letter)
		other.One, other.Two = 'B', letter
		want(t, plate.CheckBook(book(3, other)), map[bool]api.Errno{true: api.ErrArg}[letter == 'B'], letter)
	}
	for _, letter := range []byte(bytesThatAreNone) {
		want(t, plate.CheckBook(book(3, api.PlateAlike{One: letter, Two: 'B', Cost: 1})), api.ErrForm, letter)
		want(t, plate.CheckBook(book(3, api.PlateAlike{One: 'B', Two: letter, Cost: 1})), api.ErrForm, letter)
	}
}

// Each function with a book returns the error of CheckBook before all others, also before ErrForm, ErrMany and ErrArg.
func TestBookFirst(t *testing.T) {
	for wanted, list := range books() {
		for _, b := range list {
			if wanted == api.OK {
				continue
			}
			for _, e := range errorsOfBook(b, 'a', "", slices.Repeat(reg("x"), 31), -1) {
				want(t, e, wanted, b)
			}
			for _, e := range errorsOfBook(b, 'A', "A", reg("A", "B"), 0) {
				want(t, e, wanted, b)
			}
		}
	}
}

// errorsOfBook returns the errors of all functions with a book.
func errorsOfBook(b api.PlateBook, letter byte, one string, register []string, far int64) []api.Errno {
	_, e1 := plate.Letter(b, letter, letter)
	_, e2 := plate.Distance(b, one, one)
	_, e3 := plate.Match(b, one, one)
	_, e4 := plate.CheckMatch(b, one, one, nil)
	_, e5 := plate.Near(b, register, one, far)
	_, _, e6 := plate.Apart(b, register)
	_, e7 := plate.Table(b, register, register)
	return []api.Errno{e1, e2, e3, e4, e5, e6, e7}
}

// P6.2
func TestLetter(t *testing.T) {
	pathways := book(9, alike("AB", 1), alike("BC", 1), alike("CD", 1), alike("DE", 1), alike("AE", 5), alike("XY", 0))
	for _, x := range []struct {
		b        api.PlateBook
		one, two byte
		wanted   int64
	}{
		{chapter(), 'B', '8', 1},
		{chapter(), 'O', '0', 1},
		{chapter(), '0', 'Q', 3},
		{chapter(), '0', 'I', 6},
		{chapter(), 'Q', 'Q', 0},
		{book(1000), 'A', 'A', 0},
		{book(1000), 'A', 'B', 2000},
		{book(0, alike("AB", 5)), 'A', 'B', 0},
		{book(2, alike("AB", 3)), 'A', 'B', 3},
		{book(2, alike("AB", 4)), 'A', 'B', 4},
		{book(2, alike("AB", 5)), 'A', 'B', 4},
		{pathways, 'A', 'E', 4},
		{pathways, 'A', 'D', 3},
		{pathways, 'X', 'Y', 0},
		{pathways, 'A', 'X', 18},
		{book(9, alike("AB", 7), alike("BA", 4), alike("AB", 8)), 'A', 'B', 4}, // the least one of several
		{book(9, alike("CD", 1), alike("AB", 2), alike("BC", 3)), 'D', 'A', 6}, // a chain in any order
		{book(9, alike("AB", 2), alike("AC", 2), alike("AD", 2)), 'B', 'D', 4},
		{book(500, alike("AB", 1000), alike("BC", 1)), 'A', 'C', 1000}, // a chain that is not less than both
	} {
		for _, two := range [][2]byte{{x.one, x.two}, {x.two, x.one}} {
			n, e := plate.Letter(x.b, two[0], two[1])
			want(t, e, api.OK, x)
			want(t, n, x.wanted, x)
		}
	}
	for _, letter := range []byte(bytesThatAreNone) {
		for _, two := range [][2]byte{{letter, 'A'}, {'A', letter}, {letter, letter}} {
			n, e := plate.Letter(chapter(), two[0], two[1])
			want(t, e, api.ErrForm, two)
			want(t, n, 0, two)
		}
	}
}

// P6.2: what letters cost is what the least one of all chains costs, if there is one below twice Skip.
func TestLetterByAllChains(t *testing.T) {
	var d die
	chained := 0
	for range 400 {
		n := int(d.roll(2, 6))
		b := d.book(int(d.roll(0, 6)), n, 9)
		direct := costsOf(book(b.Skip))
		for i := range n {
			for j := range n {
				one, two := letters[i*7%36], letters[j*7%36]
				got, e := plate.Letter(b, one, two)
				want(t, e, api.OK, b)
				want(t, got, letterByChains(b, one, two), b, one, two)
				if got < direct[one][two] {
					chained++
				}
			}
		}
	}
	if chained < 1000 {
		t.Error(chained)
	}
}

// P6.2: books of the greatest size, all letters. A chain of 35 pairs is the longest one.
func TestLetterOfGreatBooks(t *testing.T) {
	var d die
	long := book(1000)
	for i := 34; i >= 0; i-- {
		long.Alike = append(long.Alike, alike(letters[i:i+2], 1))
	}
	forth := book(1000, slices.Clone(long.Alike)...)
	slices.Reverse(forth.Alike)
	list := []api.PlateBook{long, forth}
	for range 20 {
		list = append(list, d.book(40, int(d.roll(8, 36)), api.MaxPlateSkip))
	}
	for _, b := range list {
		c := costsOf(b)
		for _, one := range []byte(letters) {
			for _, two := range []byte(letters) {
				n, e := plate.Letter(b, one, two)
				want(t, e, api.OK, b)
				want(t, n, c[one][two], b, one, two)
			}
		}
	}
	n, _ := plate.Letter(long, 'A', '9')
	want(t, n, 35)
}

// Plates are strings of from 1 to 10 letters; all functions with plates return ErrForm for others, before all but CheckBook.
func TestPlates(t *testing.T) {
	b := chapter()
	for _, s := range []string{"A", "9", "AAAAAAAAAA", "0123456789", "QRSTUVWXYZ"} {
		for i, x := range callsWithPlate(b, s) {
			want(t, x.e, x.ifPlate, s, i)
		}
	}
	bad := reg("", "AAAAAAAAAAA", "a", "A B", "A-B", "Ä", "AAAAAAAAAa", "aAAAAAAAAA", strings.Repeat("A", 1<<16))
	for _, letter := range []byte(bytesThatAreNone) {
		bad = append(bad, string([]byte{letter}), string([]byte{'A', letter}), string([]byte{letter, '9', 'Z'}))
	}
	for _, s := range bad {
		for i, x := range callsWithPlate(b, s) {
			want(t, x.e, api.ErrForm, s, i)
		}
	}
}

// called is the error of a call with a string, and what it is if this is a plate.
type called struct{ e, ifPlate api.Errno }

// callsWithPlate calls all functions with plates, also so that other errors apply if the string is one.
func callsWithPlate(b api.PlateBook, s string) []called {
	var list []called
	add := func(ifPlate api.Errno) func(any, api.Errno) {
		return func(_ any, e api.Errno) { list = append(list, called{e, ifPlate}) }
	}
	add(api.OK)(plate.Distance(b, s, "A"))
	add(api.OK)(plate.Distance(b, "A", s))
	add(api.OK)(plate.Match(b, s, "A"))
	add(api.OK)(plate.Match(b, "A", s))
	add(api.ErrRule)(plate.CheckMatch(b, s, "A", nil))
	add(api.ErrRule)(plate.CheckMatch(b, "A", s, match([2]int{5, 5})))
	add(api.OK)(plate.Near(b, reg("A", s), "A", 0))
	add(api.OK)(plate.Near(b, nil, s, 0))
	add(api.ErrArg)(plate.Near(b, reg("A"), s, -1))
	add(api.ErrMany)(plate.Near(b, append(slices.Repeat(reg("A"), 40), s), "A", -1))
	for ifPlate, register := range map[api.Errno][]string{
		api.OK: reg("A", s), api.ErrNone: reg(s), api.ErrMany: append(slices.Repeat(reg("A"), 40), s),
	} {
		_, _, e := plate.Apart(b, register)
		list = append(list, called{e, ifPlate})
	}
	add(api.OK)(plate.Table(b, reg(s), reg("A", "B")))
	add(api.OK)(plate.Table(b, reg("A"), reg("A", s)))
	add(api.ErrMany)(plate.Table(b, nil, reg("A", s)))
	add(api.ErrMany)(plate.Table(b, reg("A", s), nil))
	return list
}
