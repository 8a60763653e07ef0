package leak

import (
	"iter"

	"forecourt/api"
)

// reduced returns a fraction in least terms; its Den is above 0.
func reduced(r api.Ratio) api.Ratio {
	divisor, rest := r.Den, max(r.Num, -r.Num)
	for rest != 0 {
		divisor, rest = rest, divisor%rest
	}
	return api.Ratio{Num: r.Num / divisor, Den: r.Den / divisor}
}

// minus returns a fraction with the other sign.
func minus(r api.Ratio) api.Ratio { return api.Ratio{Num: -r.Num, Den: r.Den} }

// above reports whether one is greater than two. No product here is too great:
// the greatest amounts are those of tops, 3 * 10^12 over denominators of 10^5.
func above(one, two api.Ratio) bool { return one.Num*two.Den > two.Num*one.Den }

// least returns the least of several fractions: the first one of equal ones, and 0 / 0 if there is none.
func least[F ~struct{ Num, Den int64 }](several iter.Seq[F]) F {
	var found F
	none := true
	for one := range several {
		if none || above(api.Ratio(found), api.Ratio(one)) {
			found, none = one, false
		}
	}
	return found
}
