package chart

import "forecourt/api"

// divisor returns the greatest number that divides two numbers, of which one is above 0 and none is below it.
func divisor[N ~int | ~int64](one, two N) N {
	for two != 0 {
		one, two = two, one%two
	}
	return one
}

// ratio returns num / den in least terms; num is not below 0, and den is above it.
func ratio(num, den int64) api.Ratio {
	d := divisor(num, den)
	return api.Ratio{Num: num / d, Den: den / d}
}

// minus returns one less two, which is not greater than one.
func minus(one, two api.Ratio) api.Ratio {
	return ratio(one.Num*two.Den-two.Num*one.Den, one.Den*two.Den)
}

// atMost reports whether one is not above two. No product here is too great:
// litres are at most 100,000, and the denominators at most 4,000,000, because
// two gaps between rows have at most 4,000 millimetres together.
func atMost(one, two api.Ratio) bool {
	return one.Num*two.Den <= two.Num*one.Den
}

// unswollen returns litres at the common warmth, if they have swollen by so many millionths.
func unswollen(litres, millionths int64) api.Ratio {
	const million = 1_000_000
	return ratio(million*litres, million+millionths)
}
