package chart_test

import (
	"testing"

	"forecourt/api"
	"forecourt/chart"
)

// badTanks are tanks that are not valid, with the error that each function with a tank returns for them before all others.
func badTanks() map[string]badTank {
	return map[string]badTank{
		"no rows":                      {api.ChartTank{}, api.ErrMany},
		"empty rows":                   {api.ChartTank{Rows: []api.ChartRow{}}, api.ErrMany},
		"one row":                      {longTank(1), api.ErrMany},
		"17 rows":                      {longTank(17), api.ErrMany},
		"500 rows":                     {longTank(500), api.ErrMany},
		"one row, all else wrong":      {tank(-1, -1, 5, 4), api.ErrMany},
		"first dip below 0":            {tank(0, -1, 0, 0, 5, 0, 0), api.ErrRange},
		"last dip above 4000":          {tank(0, 0, 0, 0, 4001, 0, 0), api.ErrRange},
		"first dip far below 0":        {tank(0, least, 0, 0, 5, 0, 0), api.ErrRange},
		"last dip far above 4000":      {tank(0, 0, 0, 0, most, 0, 0), api.ErrRange},
		"equal dips":                   {tank(0, 5, 0, 0, 5, 0, 0), api.ErrRange},
		"equal dips 0":                 {tank(0, 0, 0, 0, 0, 0, 0), api.ErrRange},
		"falling dips":                 {tank(0, 6, 0, 0, 5, 0, 0), api.ErrRange},
		"equal dips behind":            {tank(0, 0, 0, 0, 3, 0, 0, 7, 0, 0, 7, 0, 0), api.ErrRange},
		"falling dips between":         {tank(0, 0, 0, 0, 3, 0, 0, 2, 0, 0, 9, 0, 0), api.ErrRange},
		"dips before litres":           {tank(0, 0, 5, 4, 3, 0, 0, 3, 0, 0), api.ErrRange},
		"dips before the probe":        {tank(51, 3, 0, 0, 3, 0, 0), api.ErrRange},
		"litres from above to":         {tank(0, 0, 1, 0, 5, 0, 9), api.ErrArg},
		"last litres from above to":    {tank(0, 0, 0, 1, 5, 9, 8), api.ErrArg},
		"litres below 0":               {tank(0, 0, -1, 0, 5, 0, 0), api.ErrArg},
		"litres below 0 to the end":    {tank(0, 0, -2, -1, 5, 0, 0), api.ErrArg},
		"litres above 100000":          {tank(0, 0, 0, 0, 5, 0, 100001), api.ErrArg},
		"litres above 100000 alone":    {tank(0, 0, 0, 0, 5, 100001, 100001), api.ErrArg},
		"litres far out":               {tank(0, 0, least, most, 5, 0, 0), api.ErrArg},
		"litres turned round, far out": {tank(0, 0, most, least, 5, 0, 0), api.ErrArg},
		"litres out in the middle":     {tank(0, 0, 0, 0, 5, -1, 0, 6, 0, 0), api.ErrArg},
		"probe below 0":                {chapterTank(-1), api.ErrArg},
		"probe above 50":               {chapterTank(51), api.ErrArg},
		"probe far below 0":            {chapterTank(least), api.ErrArg},
		"probe far above 50":           {chapterTank(most), api.ErrArg},
		"probe, and rows that clash":   {dented(51), api.ErrArg},
	}
}

type badTank struct {
	t api.ChartTank
	e api.Errno
}

// P1.1
func TestCheckTank(t *testing.T) {
	for name, x := range badTanks() {
		if e := chart.CheckTank(x.t); e != x.e {
			t.Errorf("%s: %d, want %d", name, e, x.e)
		}
	}
	for name, good := range map[string]api.ChartTank{
		"the chapter's":          chapterTank(0),
		"probe 1":                chapterTank(1),
		"probe 50":               chapterTank(50),
		"two rows":               longTank(2),
		"16 rows":                longTank(16),
		"first and last dip":     tank(0, 0, 0, 0, 4000, 0, 0),
		"dips beside each other": tank(0, 3999, 0, 0, 4000, 0, 0),
		"widest litres":          tank(0, 0, 0, 100000, 1, 0, 100000),
		"narrowest litres":       tank(0, 0, 0, 0, 1, 100000, 100000),
		"without a chart":        dented(0),
		"falling litres":         tank(0, 0, 100000, 100000, 1, 0, 0),
	} {
		if e := chart.CheckTank(good); e != api.OK {
			t.Errorf("%s: %d", name, e)
		}
	}
}

// All functions with a tank return the error of CheckTank before all others.
func TestTankErrorsComeFirst(t *testing.T) {
	for name, x := range badTanks() {
		if e := chart.CheckChart(x.t, nil); e != x.e {
			t.Errorf("CheckChart, %s: %d", name, e)
		}
		if one, two, e := chart.Clash(x.t); one != 0 || two != 0 || e != x.e {
			t.Errorf("Clash, %s: %d %d %d", name, one, two, e)
		}
		if l, e := chart.Tight(x.t); len(l) != 0 || e != x.e {
			t.Errorf("Tight, %s: %v %d", name, l, e)
		}
		if r, e := chart.Below(x.t, []int64{-1}, -1); r != (api.Ratio{}) || e != x.e {
			t.Errorf("Below, %s: %v %d", name, r, e)
		}
		if r, e := chart.Metered(x.t, 99, -1); r != (api.Range{}) || e != x.e {
			t.Errorf("Metered, %s: %v %d", name, r, e)
		}
		if s, e := chart.Net(x.t, 9999, -1); s != (api.ChartSpan{}) || e != x.e {
			t.Errorf("Net, %s: %v %d", name, s, e)
		}
		for _, high := range []bool{false, true} {
			if l, d, e := chart.End(x.t, 9999, -1, high); len(l) != 0 || d != [2]int64{} || e != x.e {
				t.Errorf("End, %s: %v %v %d", name, l, d, e)
			}
		}
		if r, e := chart.Dips(x.t, -1); r != (api.Range{}) || e != x.e {
			t.Errorf("Dips, %s: %v %d", name, r, e)
		}
	}
}

// P1.2
func TestCheckChart(t *testing.T) {
	for i, x := range []struct {
		l []int64
		e api.Errno
	}{
		{[]int64{0, 400, 800, 2000}, api.OK},
		{[]int64{0, 380, 400, 1900}, api.OK},
		{[]int64{0, 420, 900, 2100}, api.OK},
		{[]int64{0, 400, 400, 1900}, api.OK},
		{[]int64{0, 401, 400, 1900}, api.ErrClash},
		{[]int64{-1, 400, 800, 2000}, api.ErrClash},
		{[]int64{1, 400, 800, 2000}, api.ErrClash},
		{[]int64{0, 379, 800, 2000}, api.ErrClash},
		{[]int64{0, 421, 800, 2000}, api.ErrClash},
		{[]int64{0, 400, 901, 2000}, api.ErrClash},
		{[]int64{0, 400, 800, 1899}, api.ErrClash},
		{[]int64{0, 400, 800, 2101}, api.ErrClash},
		{[]int64{0, 400, least, 2000}, api.ErrClash},
		{[]int64{0, 400, most, 2000}, api.ErrClash},
		{[]int64{0, 400, 800}, api.ErrEqual},
		{[]int64{0, 400, 800, 2000, 2000}, api.ErrEqual},
		{[]int64{-1, 9999, 0}, api.ErrEqual},
		{[]int64{}, api.ErrEqual},
		{nil, api.ErrEqual},
		{make([]int64, 5000), api.ErrEqual},
	} {
		if e := chart.CheckChart(chapterTank(0), x.l); e != x.e {
			t.Errorf("%d: %d, want %d", i, e, x.e)
		}
	}
	if e := chart.CheckChart(longTank(16), make([]int64, 16)); e != api.OK {
		t.Error(e)
	}
	if e := chart.CheckChart(dented(0), []int64{0, 950, 900, 2000}); e != api.ErrClash {
		t.Error(e)
	}
	if e := chart.CheckChart(tank(0, 0, 0, 9, 1, 0, 9), []int64{5, 4}); e != api.ErrClash {
		t.Error(e)
	}
}

// P1.2, against the definition.
func TestCheckChartOfAllNumbers(t *testing.T) {
	var d die
	for range 60 {
		x := d.small()
		x.Rows = x.Rows[:min(3, len(x.Rows))]
		good := map[[3]int64]bool{}
		for _, c := range charts(x) {
			good[[3]int64(append(c, 0)[:3])] = true
		}
		for n := range int64(11 * 11 * 11) {
			three := [3]int64{n % 11, n / 11 % 11, n / 121}
			if len(x.Rows) == 2 && three[2] != 0 {
				continue
			}
			if e := chart.CheckChart(x, three[:len(x.Rows)]); e == api.OK != good[three] || e != api.OK && e != api.ErrClash {
				t.Fatal(x, three, e)
			}
		}
	}
}

// P1.3
func TestClash(t *testing.T) {
	for i, x := range []struct {
		t        api.ChartTank
		one, two int
		e        api.Errno
	}{
		{chapterTank(0), 0, 0, api.ErrNone},
		{dented(0), 1, 2, api.OK},
		{tank(0, 0, 5, 9, 1, 0, 4), 0, 1, api.OK},
		{tank(0, 0, 5, 9, 1, 0, 5), 0, 0, api.ErrNone},
		{tank(0, 0, 0, 9, 1, 5, 9, 2, 0, 9, 3, 0, 4), 1, 3, api.OK},
		{tank(0, 0, 5, 9, 1, 8, 9, 2, 7, 7, 3, 0, 4), 0, 3, api.OK},
		{tank(0, 0, 8, 9, 1, 9, 9, 2, 7, 7, 3, 0, 4), 0, 2, api.OK},
		{tank(0, 0, 1, 9, 1, 2, 9, 2, 3, 9, 3, 0, 2), 2, 3, api.OK},
		{tank(0, 0, 1, 9, 1, 9, 9, 2, 9, 9, 3, 8, 8), 1, 3, api.OK},
		{tank(0, 0, 7, 7, 1, 7, 7, 2, 7, 7), 0, 0, api.ErrNone},
	} {
		if one, two, e := chart.Clash(x.t); one != x.one || two != x.two || e != x.e {
			t.Errorf("%d: %d %d %d", i, one, two, e)
		}
	}
	long := longTank(16)
	long.Rows[14].Litres.Lo, long.Rows[15].Litres.Hi = 1, 0
	if one, two, e := chart.Clash(long); one != 14 || two != 15 || e != api.OK {
		t.Error(one, two, e)
	}
}

// P1.3 and P1.10: there is either a chart, or a first pair of rows that contradict each other.
func TestClashOrChart(t *testing.T) {
	var d die
	for range 2000 {
		x := d.small()
		one, two, e := chart.Clash(x)
		if len(charts(x)) > 0 {
			if one != 0 || two != 0 || e != api.ErrNone {
				t.Fatal(x, one, two, e)
			}
			continue
		}
		if e != api.OK || one < 0 || one >= two || two >= len(x.Rows) || !clashes(x, one, two) {
			t.Fatal(x, one, two, e)
		}
		for i := range x.Rows {
			for j := i + 1; j < len(x.Rows); j++ {
				if clashes(x, i, j) && (i < one || i == one && j < two) {
					t.Fatal(x, one, two, i, j)
				}
			}
		}
	}
}
