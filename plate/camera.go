package plate

import "forecourt/api"

// allLetters is how many letters there are.
const allLetters = 26 + 10

// costs are what a letter costs for each one, by their numbers.
type costs [allLetters]int64

// camera is a book with what each letter costs for each one.
type camera struct {
	api.PlateBook
	letters [allLetters]costs
}

// numberOf returns a number for each letter, from 0 on.
func numberOf(letter byte) int {
	if isDigit(letter) {
		return int(letter-'0') + 26
	}
	return int(letter - 'A')
}

// costsOf returns what a letter costs for each one. It begins without any chain, and looks at
// the pairs until none of them makes a chain that costs less.
func costsOf(b api.PlateBook, number int) costs {
	var now costs
	for other := range now {
		now[other] = 2 * b.Skip
	}
	now[number] = 0
	for {
		before := now
		for _, a := range b.Alike {
			one, two := numberOf(a.One), numberOf(a.Two)
			now[one] = min(now[one], now[two]+a.Cost)
			now[two] = min(now[two], now[one]+a.Cost)
		}
		if now == before {
			return now
		}
	}
}

// cameraOf returns the camera of a valid book.
func cameraOf(b api.PlateBook) *camera {
	c := &camera{PlateBook: b}
	for number := range c.letters {
		c.letters[number] = costsOf(b, number)
	}
	return c
}

// letter returns what a letter costs for another one.
func (c *camera) letter(one, two byte) int64 { return c.letters[numberOf(one)][numberOf(two)] }

// distance returns the distance of two plates. It keeps no match, as a register or a table
// needs hundreds of distances.
func (c *camera) distance(one, two string) int64 {
	// far is the distances of the beginnings of two from a beginning of one, which gets longer.
	var far [api.MaxPlateLong + 1]int64
	for j := range len(two) {
		far[j+1] = far[j] + c.Skip
	}
	for i := range len(one) {
		aslant := far[0]
		far[0] += c.Skip
		for j := range len(two) {
			paired := aslant + c.letter(one[i], two[j])
			aslant = far[j+1]
			far[j+1] = min(paired, far[j]+c.Skip, far[j+1]+c.Skip)
		}
	}
	return far[len(two)]
}
