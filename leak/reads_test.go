package leak_test

import (
	"testing"

	"forecourt/api"
	"forecourt/leak"
)

// badSheet is readings that are not a sheet, with the error that each function with l returns for them before all others.
type badSheet struct {
	l []api.LeakRead
	e api.Errno
}

func badSheets() map[string]badSheet {
	return map[string]badSheet{
		"none":                        {nil, api.ErrMany},
		"empty":                       {[]api.LeakRead{}, api.ErrMany},
		"61":                          {long(61), api.ErrMany},
		"500":                         {long(500), api.ErrMany},
		"61, all else wrong":          {append(long(60), sheet(-1, 5, 4)...), api.ErrMany},
		"time below 0":                {sheet(-1, 0, 0), api.ErrArg},
		"time far below 0":            {sheet(least, 0, 0), api.ErrArg},
		"time above 100000":           {sheet(100001, 0, 0), api.ErrArg},
		"time far above 100000":       {sheet(most, 0, 0), api.ErrArg},
		"last time above 100000":      {sheet(0, 0, 0, 100001, 0, 0), api.ErrArg},
		"equal times":                 {sheet(5, 0, 0, 5, 0, 0), api.ErrArg},
		"equal times 0":               {sheet(0, 0, 0, 0, 0, 0), api.ErrArg},
		"falling times":               {sheet(5, 0, 0, 4, 0, 0), api.ErrArg},
		"falling times behind":        {sheet(1, 0, 0, 5, 0, 0, 3, 0, 0), api.ErrArg},
		"equal times behind":          {sheet(1, 0, 0, 5, 0, 0, 5, 0, 0), api.ErrArg},
		"times before losses":         {sheet(1, 5, 4, 5, 0, 0, 5, 0, 0), api.ErrArg},
		"lost from above to":          {sheet(5, 1, 0), api.ErrRange},
		"lost from above to, later":   {sheet(5, 0, 0, 6, 9, 8), api.ErrRange},
		"lost below the least":        {sheet(5, -10000001, 0), api.ErrRange},
		"lost below the least alone":  {sheet(5, -10000001, -10000001), api.ErrRange},
		"lost above the most":         {sheet(5, 0, 10000001), api.ErrRange},
		"lost above the most alone":   {sheet(5, 10000001, 10000001), api.ErrRange},
		"lost far out":                {sheet(5, least, most), api.ErrRange},
		"lost turned round, far out":  {sheet(5, most, least), api.ErrRange},
		"lost out in the middle":      {sheet(5, 0, 0, 6, 0, 10000001, 7, 0, 0), api.ErrRange},
		"lost turned, and a clash":    {sheet(0, 0, 0, 1, 9, 9, 2, 1, 0), api.ErrRange},
		"lost of the first least one": {sheet(5, least, 0, 6, 0, 0), api.ErrRange},
	}
}

// P2.1
func TestCheckReads(t *testing.T) {
	for name, x := range badSheets() {
		want(t, leak.CheckReads(x.l), x.e, name)
	}
	for name, l := range map[string][]api.LeakRead{
		"the chapter's":       chapter(),
		"one that clashes":    late(),
		"one reading":         sheet(7, 3, 3),
		"60 readings":         long(60),
		"all ends":            sheet(0, -10000000, -10000000, 100000, 10000000, 10000000),
		"as wide as can be":   sheet(100000, -10000000, 10000000),
		"losses below 0":      sheet(3, -9, -5),
		"times by one minute": sheet(99999, 0, 0, 100000, 0, 0),
	} {
		want(t, leak.CheckReads(l), api.OK, name)
	}
}

// Functions with l return the error of CheckReads before all others, and nothing else with it.
func TestErrorOfReadsComesFirst(t *testing.T) {
	for name, x := range badSheets() {
		want(t, leak.CheckLine(x.l, api.LeakLine{}), x.e, name)
		line, e := leak.Line(x.l)
		want(t, line, api.LeakLine{}, name)
		want(t, e, x.e, name)
		three, e := leak.Clash(x.l)
		want(t, three, [3]int{}, name)
		want(t, e, x.e, name)
		want(t, leak.CheckClash(x.l, [3]int{-1, 9, 9}), x.e, name)
		want(t, ratesOf(x.l), failed(x.e), name)
		for _, high := range []bool{false, true} {
			two, e := leak.Bounds(x.l, high)
			want(t, two, [2]int{}, name)
			want(t, e, x.e, name)
			rate, e := leak.CheckBounds(x.l, high, [2]int{-1, 9})
			want(t, rate, api.Ratio{}, name)
			want(t, e, x.e, name)
		}
		want(t, spanOf(x.l, -1), failed(x.e), name)
		want(t, leak.Certain(x.l, api.Ratio{}), x.e, name)
		n, e := leak.First(x.l, api.Ratio{})
		want(t, n, 0, name)
		want(t, e, x.e, name)
	}
}

// P2.2
func TestCheckLine(t *testing.T) {
	const great = 1 << 42
	for i, x := range []struct {
		l    []api.LeakRead
		line api.LeakLine
		e    api.Errno
	}{
		{chapter(), api.LeakLine{Start: 40, Rate: 3, Den: 20}, api.OK},
		{chapter(), api.LeakLine{Start: 2, Rate: 3, Den: 20}, api.ErrRule},
		{chapter(), api.LeakLine{Rate: 1, Den: 7}, api.ErrRule},
		{chapter(), api.LeakLine{Rate: 1, Den: 6}, api.OK},
		{chapter(), api.LeakLine{Rate: 16000, Den: 96000}, api.OK},
		{chapter(), api.LeakLine{Start: -1, Rate: 16000, Den: 96000}, api.ErrRule},
		{chapter(), api.LeakLine{Start: 1, Rate: 16000, Den: 96000}, api.ErrRule},
		{sheet(4, -7, 3), api.LeakLine{Start: -7, Den: 1}, api.OK},
		{sheet(4, -7, 3), api.LeakLine{Start: 3, Den: 1}, api.OK},
		{sheet(4, -7, 3), api.LeakLine{Start: -71, Den: 10}, api.ErrRule},
		{sheet(4, -7, 3), api.LeakLine{Start: 31, Den: 10}, api.ErrRule},
		{sheet(4, -7, 3), api.LeakLine{Start: 30 + 4*9, Rate: -9, Den: 10}, api.OK},
		{sheet(0, 0, 0, 9, 1, 1), api.LeakLine{Rate: 1, Den: 9}, api.OK},
		{sheet(0, 0, 0, 9, 1, 1), api.LeakLine{Rate: 1, Den: 8}, api.ErrRule},
		{sheet(1, 0, 0), api.LeakLine{Start: great, Rate: -great, Den: 1}, api.OK},
		{sheet(1, 0, 0), api.LeakLine{Start: -great, Rate: great, Den: 100000}, api.OK},
		{sheet(100000, 0, 10000000), api.LeakLine{Start: great, Rate: great, Den: 1}, api.ErrRule},
		{sheet(100000, -10000000, 0), api.LeakLine{Start: -great, Rate: -great, Den: 1}, api.ErrRule},
		{sheet(1, 0, 0), api.LeakLine{Start: great + 1, Rate: -great - 1, Den: 1}, api.ErrRange},
		{sheet(1, 0, 0), api.LeakLine{Start: great, Rate: -great - 1, Den: 1}, api.ErrRange},
		{sheet(1, 0, 0), api.LeakLine{Start: -great - 1, Rate: great, Den: 1}, api.ErrRange},
		{sheet(1, 0, 0), api.LeakLine{Start: great + 1, Den: 1}, api.ErrRange},
		{sheet(1, 0, 0), api.LeakLine{Rate: great + 1, Den: 1}, api.ErrRange},
		{sheet(1, 0, 0), api.LeakLine{Start: least, Rate: most, Den: 1}, api.ErrRange},
		{sheet(1, 0, 0), api.LeakLine{Den: 0}, api.ErrRange},
		{sheet(1, 0, 0), api.LeakLine{Den: -1}, api.ErrRange},
		{sheet(1, 0, 0), api.LeakLine{Den: least}, api.ErrRange},
		{sheet(1, 0, 0), api.LeakLine{Den: 100000}, api.OK},
		{sheet(1, 0, 0), api.LeakLine{Den: 100001}, api.ErrRange},
		{sheet(1, 5, 5), api.LeakLine{Den: 100001}, api.ErrRange},
		{sheet(1, 5, 5), api.LeakLine{Den: 100000}, api.ErrRule},
	} {
		want(t, leak.CheckLine(x.l, x.line), x.e, i)
	}
}

// P2.2: a line is found just if there is one.
func TestLine(t *testing.T) {
	var d die
	seen := map[api.Errno]int{}
	for range 3000 {
		l := d.sheet()
		x, e := leak.Line(l)
		seen[e]++
		if !agrees(l) {
			want(t, x, api.LeakLine{}, l)
			want(t, e, api.ErrClash, l)
			continue
		}
		want(t, e, api.OK, l)
		want(t, leak.CheckLine(l, x), api.OK, l, x)
		want(t, passes(x, l), true, l, x)
	}
	if seen[api.OK] < 500 || seen[api.ErrClash] < 500 {
		t.Fatal(seen)
	}
}

// P2.2: the numbers of a line keep within their limits, however great those of the readings are.
func TestLineOfGreatNumbers(t *testing.T) {
	for i, l := range [][]api.LeakRead{
		sheet(0, -10000000, -10000000, 100000, 10000000, 10000000),
		sheet(0, 10000000, 10000000, 100000, -10000000, -10000000),
		sheet(99999, -10000000, -10000000, 100000, 10000000, 10000000),
		sheet(99999, 10000000, 10000000, 100000, -10000000, -10000000),
		sheet(99999, -10000000, 10000000, 100000, -10000000, 10000000),
		sheet(49999, -10000000, -10000000, 100000, 10000000, 10000000),
		sheet(50000, 10000000, 10000000, 100000, -10000000, -10000000),
		sheet(100000, -10000000, -10000000),
		sheet(100000, 10000000, 10000000),
		sheet(1, -10000000, 10000000, 99999, -10000000, 10000000, 100000, -10000000, 10000000),
	} {
		x, e := leak.Line(l)
		want(t, e, api.OK, i)
		want(t, leak.CheckLine(l, x), api.OK, i, x)
	}
	var d die
	for range 3000 {
		l := d.huge()
		x, e := leak.Line(l)
		if !agrees(l) {
			want(t, e, api.ErrClash, l)
			continue
		}
		want(t, e, api.OK, l)
		want(t, leak.CheckLine(l, x), api.OK, l, x)
	}
}

// P2.3
func TestCheckClash(t *testing.T) {
	for i, x := range []struct {
		l     []api.LeakRead
		three [3]int
		e     api.Errno
	}{
		{late(), [3]int{0, 2, 3}, api.OK},
		{late(), [3]int{0, 1, 3}, api.OK},
		{late(), [3]int{1, 2, 3}, api.OK},
		{late(), [3]int{0, 1, 2}, api.ErrSum},
		{chapter(), [3]int{0, 1, 2}, api.ErrSum},
		{sheet(0, 0, 9, 10, 10, 30, 20, 0, 9), [3]int{0, 1, 2}, api.OK},
		{sheet(0, 0, 9, 10, 9, 30, 20, 0, 9), [3]int{0, 1, 2}, api.ErrSum},
		{sheet(0, 20, 30, 10, 0, 19, 20, 20, 30), [3]int{0, 1, 2}, api.OK},
		{sheet(0, 20, 30, 10, 0, 20, 20, 20, 30), [3]int{0, 1, 2}, api.ErrSum},
		{sheet(0, 0, 0, 1, 1, 1, 3, 2, 3), [3]int{0, 1, 2}, api.ErrSum},
		{sheet(0, 0, 0, 1, 1, 1, 3, 2, 2), [3]int{0, 1, 2}, api.OK},
		{late(), [3]int{0, 0, 3}, api.ErrRange},
		{late(), [3]int{0, 3, 3}, api.ErrRange},
		{late(), [3]int{0, 3, 2}, api.ErrRange},
		{late(), [3]int{2, 0, 3}, api.ErrRange},
		{late(), [3]int{0, 2, 4}, api.ErrRange},
		{late(), [3]int{-1, 2, 3}, api.ErrRange},
		{late(), [3]int{least, 2, 3}, api.ErrRange},
		{late(), [3]int{0, 2, most}, api.ErrRange},
		{chapter(), [3]int{0, 1, 4}, api.ErrRange},
		{sheet(0, 0, 0, 1, 9, 9), [3]int{0, 1, 2}, api.ErrRange},
		{sheet(0, 0, 0), [3]int{}, api.ErrRange},
	} {
		want(t, leak.CheckClash(x.l, x.three), x.e, i)
	}
}

// P2.3: three readings clash just if no line goes through all three.
func TestClash(t *testing.T) {
	var d die
	seen := map[api.Errno]int{}
	for i := range 3000 {
		l := d.sheet()
		if i%3 == 0 {
			l = d.huge()
		}
		three, e := leak.Clash(l)
		seen[e]++
		if agrees(l) {
			want(t, three, [3]int{}, l)
			want(t, e, api.ErrNone, l)
		} else {
			want(t, e, api.OK, l)
			want(t, leak.CheckClash(l, three), api.OK, l, three)
		}
		for i := range l {
			for j := i + 1; j < len(l); j++ {
				for k := j + 1; k < len(l); k++ {
					e := api.OK
					if agrees([]api.LeakRead{l[i], l[j], l[k]}) {
						e = api.ErrSum
					}
					want(t, leak.CheckClash(l, [3]int{i, j, k}), e, l, i, j, k)
				}
			}
		}
	}
	if seen[api.OK] < 500 || seen[api.ErrNone] < 500 {
		t.Fatal(seen)
	}
}

// P2.3: three readings that clash are found wherever they are among 60.
func TestClashOfLongSheets(t *testing.T) {
	var d die
	for range 200 {
		l := long(60)
		i, k := d.roll(0, 28), d.roll(30, 58)
		j := d.roll(i+1, k)
		for x := range l {
			l[x].Lost = rg(-1000, 1000)
		}
		_, e := leak.Clash(l)
		want(t, e, api.ErrNone)
		l[i].Lost, l[j].Lost, l[k+1].Lost = rg(-5, 5), rg(6, 7), rg(-9, 5)
		three, e := leak.Clash(l)
		want(t, e, api.OK, i, j, k)
		want(t, three, [3]int{int(i), int(j), int(k + 1)})
	}
}
