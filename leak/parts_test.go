package leak_test

import (
	"slices"
	"testing"

	"forecourt/api"
	"forecourt/leak"
)

// test returns a standing test.
func test(lo, hi int64, parts ...int) api.LeakTest {
	return api.LeakTest{Parts: parts, Lost: rg(lo, hi)}
}

// amountOf is what Amount returns.
type amountOf struct {
	amounts api.Range
	e       api.Errno
}

func amount(parts int, tests []api.LeakTest, part int) amountOf {
	r, e := leak.Amount(parts, tests, part)
	return amountOf{r, e}
}

// section returns a section of so many parts.
func (d *die) section(parts int) []int {
	for {
		var l []int
		for part := range parts {
			if d.roll(0, 1) == 0 {
				l = append(l, part)
			}
		}
		if len(l) > 0 {
			return l
		}
	}
}

// tests returns tests of so many parts, whose ends are small, or as great as can be.
func (d *die) tests(parts int) []api.LeakTest {
	var l []api.LeakTest
	for range d.roll(0, 4) {
		lo := d.roll(-9, 7)
		x := test(lo, lo+d.roll(0, 12), d.section(parts)...)
		if d.roll(0, 3) == 0 {
			x.Lost.Hi = api.MaxLeakLoss
		}
		if d.roll(0, 9) == 0 {
			x.Lost.Lo = -api.MaxLeakLoss
		}
		l = append(l, x)
	}
	return l
}

// canLose reports whether a part can lose an amount, by the definition.
func canLose(tests []api.LeakTest, part int, amount int64) bool {
	for _, x := range tests {
		lost := int64(0)
		if slices.Contains(x.Parts, part) {
			lost = amount
		}
		if lost < x.Lost.Lo || lost > x.Lost.Hi {
			return false
		}
	}
	return true
}

// amountsOf returns the least and the greatest amount that a part can lose; the ends of small tests are all below 30.
func amountsOf(tests []api.LeakTest, part int) amountOf {
	found := amountOf{e: api.ErrNone}
	tried := []int64{api.MaxLeakLoss}
	for n := int64(30); n > 0; n-- {
		tried = append(tried, n)
	}
	for _, n := range tried {
		if !canLose(tests, part, n) {
			continue
		}
		if found.e == api.ErrNone {
			found = amountOf{rg(n, n), api.OK}
		}
		found.amounts.Lo = n
	}
	return found
}

// suspectsOf returns the parts that can lose some amount.
func suspectsOf(parts int, tests []api.LeakTest) []int {
	var l []int
	for part := range parts {
		if amountsOf(tests, part).e == api.OK {
			l = append(l, part)
		}
	}
	return l
}

// leftAfter returns how many suspects are left after a test of a section.
func leftAfter(suspects, section []int) int {
	in := 0
	for _, part := range suspects {
		if slices.Contains(section, part) {
			in++
		}
	}
	return max(in, len(suspects)-in)
}

// P2.8, P2.9: against all amounts, and all sections that are given.
func TestPartsAgainstTheDefinition(t *testing.T) {
	var d die
	counts := map[int]int{}
	for range 4000 {
		parts := int(d.roll(1, 12))
		tests := d.tests(parts)
		s, e := leak.Suspects(parts, tests)
		suspects := suspectsOf(parts, tests)
		want(t, e, api.OK, parts, tests)
		want(t, slices.Equal(s, suspects), true, parts, tests, s)
		for part := range parts {
			want(t, amount(parts, tests, part), amountsOf(tests, part), parts, tests, part)
		}
		var sections [][]int
		best, fewest := 0, parts+1
		for i := range int(d.roll(1, 6)) {
			sections = append(sections, d.section(parts))
			if n := leftAfter(suspects, sections[i]); n < fewest {
				best, fewest = i, n
			}
		}
		at, left, e := leak.Next(parts, tests, sections)
		want(t, e, api.OK, parts, tests, sections)
		want(t, at, best, parts, tests, sections)
		want(t, left, fewest, parts, tests, sections)
		counts[min(len(suspects), 3)]++
	}
	for n := range 4 {
		if counts[n] < 100 {
			t.Fatal(counts)
		}
	}
}

// P2.8: amounts at their limits.
func TestAmountsAtLimits(t *testing.T) {
	const end = api.MaxLeakLoss
	for i, x := range []struct {
		tests []api.LeakTest
		r     amountOf
	}{
		{nil, amountOf{rg(1, end), api.OK}},
		{[]api.LeakTest{test(-end, end, 0)}, amountOf{rg(1, end), api.OK}},
		{[]api.LeakTest{test(end, end, 0)}, amountOf{rg(end, end), api.OK}},
		{[]api.LeakTest{test(1, 1, 0)}, amountOf{rg(1, 1), api.OK}},
		{[]api.LeakTest{test(0, 1, 0)}, amountOf{rg(1, 1), api.OK}},
		{[]api.LeakTest{test(-1, 0, 0)}, amountOf{e: api.ErrNone}},
		{[]api.LeakTest{test(-end, -end, 0)}, amountOf{e: api.ErrNone}},
		{[]api.LeakTest{test(0, 0, 1)}, amountOf{rg(1, end), api.OK}},
		{[]api.LeakTest{test(1, 5, 1)}, amountOf{e: api.ErrNone}},
		{[]api.LeakTest{test(-5, -1, 1)}, amountOf{e: api.ErrNone}},
		{[]api.LeakTest{test(-5, 0, 1)}, amountOf{rg(1, end), api.OK}},
		{[]api.LeakTest{test(2, 5, 0), test(5, 9, 0)}, amountOf{rg(5, 5), api.OK}},
		{[]api.LeakTest{test(2, 5, 0), test(6, 9, 0)}, amountOf{e: api.ErrNone}},
	} {
		want(t, amount(2, x.tests, 0), x.r, i)
	}
}

// badStation is parts and tests that are not valid.
type badStation struct {
	parts int
	tests []api.LeakTest
	e     api.Errno
}

func badStations() map[string]badStation {
	good := test(0, 1, 0)
	return map[string]badStation{
		"no parts":              {0, nil, api.ErrArg},
		"parts below 0":         {-1, nil, api.ErrArg},
		"13 parts":              {13, nil, api.ErrArg},
		"far too few parts":     {least, nil, api.ErrArg},
		"far too many parts":    {most, nil, api.ErrArg},
		"parts before tests":    {13, slices.Repeat([]api.LeakTest{good}, 41), api.ErrArg},
		"41 tests":              {2, slices.Repeat([]api.LeakTest{good}, 41), api.ErrMany},
		"41 tests, one wrong":   {2, append(slices.Repeat([]api.LeakTest{good}, 40), test(0, 1)), api.ErrMany},
		"a test of no part":     {2, []api.LeakTest{good, test(0, 1)}, api.ErrRange},
		"a test of empty parts": {2, []api.LeakTest{{Parts: []int{}, Lost: rg(0, 1)}}, api.ErrRange},
		"a part of below 0":     {2, []api.LeakTest{test(0, 1, -1)}, api.ErrRange},
		"a part too great":      {2, []api.LeakTest{test(0, 1, 2)}, api.ErrRange},
		"a part far too great":  {12, []api.LeakTest{test(0, 1, most)}, api.ErrRange},
		"a part far too small":  {12, []api.LeakTest{test(0, 1, least, 0)}, api.ErrRange},
		"a part beyond 12":      {12, []api.LeakTest{test(0, 1, 0, 12)}, api.ErrRange},
		"a part twice":          {2, []api.LeakTest{test(0, 1, 1, 1)}, api.ErrRange},
		"the part 0 twice":      {2, []api.LeakTest{test(0, 1, 0, 0)}, api.ErrRange},
		"falling parts":         {3, []api.LeakTest{test(0, 1, 0, 2, 1)}, api.ErrRange},
		"lost from above to":    {2, []api.LeakTest{test(1, 0, 0)}, api.ErrRange},
		"lost below the least":  {2, []api.LeakTest{test(-10000001, 0, 0)}, api.ErrRange},
		"lost above the most":   {2, []api.LeakTest{test(0, 10000001, 0)}, api.ErrRange},
		"lost far out":          {2, []api.LeakTest{test(least, most, 0)}, api.ErrRange},
		"lost far out, turned":  {2, []api.LeakTest{test(most, least, 0)}, api.ErrRange},
		"the last of 40 tests":  {2, append(slices.Repeat([]api.LeakTest{good}, 39), test(1, 0, 0)), api.ErrRange},
	}
}

// P2.8, P2.9: errors of parts and tests come before those of sections.
func TestErrorsOfStations(t *testing.T) {
	for name, x := range badStations() {
		s, e := leak.Suspects(x.parts, x.tests)
		want(t, len(s), 0, name)
		want(t, e, x.e, name)
		want(t, amount(x.parts, x.tests, 0), amountOf{e: x.e}, name)
		for _, sections := range [][][]int{nil, {{}}, {{0}}, slices.Repeat([][]int{{0}}, 41)} {
			at, left, e := leak.Next(x.parts, x.tests, sections)
			want(t, at, 0, name)
			want(t, left, 0, name)
			want(t, e, x.e, name)
		}
		// A part that is none comes before all but the number of parts, which has the same error.
		for _, part := range []int{-1, max(0, x.parts), least, most} {
			want(t, amount(x.parts, x.tests, part), amountOf{e: api.ErrArg}, name, part)
		}
	}
	for _, part := range []int{-1, 2, 12, least, most} {
		want(t, amount(2, nil, part), amountOf{e: api.ErrArg}, part)
	}
	s, e := leak.Suspects(12, slices.Repeat([]api.LeakTest{test(0, 5, 0, 11)}, 40))
	want(t, e, api.OK)
	want(t, len(s), 12)
}

// P2.9
func TestNext(t *testing.T) {
	two := []api.LeakTest{test(3, 9, 0, 1), test(-1, 5, 1, 2)}
	for i, x := range []struct {
		parts    int
		tests    []api.LeakTest
		sections [][]int
		at, left int
		e        api.Errno
	}{
		{4, two, [][]int{{0, 1}, {0}, {1}}, 1, 1, api.OK},
		{4, two, [][]int{{2}, {3}, {0, 1, 2, 3}}, 0, 2, api.OK},
		{1, nil, [][]int{{0}}, 0, 1, api.OK},
		{12, nil, [][]int{{0}, {0, 1, 2, 3, 4, 5}, {6, 7, 8, 9, 10, 11}}, 1, 6, api.OK},
		{5, nil, [][]int{{0}, {0, 1, 2}, {3, 4}}, 1, 3, api.OK},
		{2, []api.LeakTest{test(-1, 0, 0, 1)}, [][]int{{1}, {0}}, 0, 0, api.OK},
		{4, two, slices.Repeat([][]int{{3}}, 40), 0, 2, api.OK},
		{4, two, append(slices.Repeat([][]int{{3}}, 39), []int{1}), 39, 1, api.OK},
		{4, two, nil, 0, 0, api.ErrMany},
		{4, two, [][]int{}, 0, 0, api.ErrMany},
		{4, two, slices.Repeat([][]int{{3}}, 41), 0, 0, api.ErrMany},
		{4, two, slices.Repeat([][]int{{4}}, 41), 0, 0, api.ErrMany},
		{4, two, [][]int{{0}, nil}, 0, 0, api.ErrRange},
		{4, two, [][]int{{}, {0}}, 0, 0, api.ErrRange},
		{4, two, [][]int{{0}, {4}}, 0, 0, api.ErrRange},
		{4, two, [][]int{{0}, {-1, 0}}, 0, 0, api.ErrRange},
		{4, two, [][]int{{0}, {1, 0}}, 0, 0, api.ErrRange},
		{4, two, [][]int{{0}, {1, 1}}, 0, 0, api.ErrRange},
		{12, two, [][]int{{0, 12}}, 0, 0, api.ErrRange},
		{12, two, [][]int{{least}, {most}}, 0, 0, api.ErrRange},
	} {
		at, left, e := leak.Next(x.parts, x.tests, x.sections)
		want(t, at, x.at, i)
		want(t, left, x.left, i)
		want(t, e, x.e, i)
	}
}
