package stock_test

import (
	"testing"

	"forecourt/api"
	"forecourt/stock"
)

// The examples of the chapter.
func TestExamples(t *testing.T) {
	n := chapter()
	want(t, stock.CheckTruth(n, []int64{105, 50, 55, 50}), api.OK)
	want(t, stock.CheckTruth(n, []int64{105, 45, 55, 45}), api.ErrSum)
	for flow, wanted := range []api.Range{rg(100, 110), rg(45, 50), rg(50, 60), rg(45, 50)} {
		want(t, span(n, flow), spanOf{wanted, api.OK}, flow)
	}
	want(t, bound(n, 2, false, []int{1}), boundOf{50, api.OK})
	want(t, bound(n, 2, false, []int{1, 2}), boundOf{30, api.OK})
	want(t, bound(n, 3, true, []int{2}), boundOf{50, api.OK})
	want(t, checkShort(lost(), []int{1, 2}), shortness{0, api.ErrNone})
	want(t, checkShort(lost(), []int{2}), shortness{15, api.OK})
	want(t, meter(1000, rg(-5, 5)), spanOf{rg(996, 1005), api.OK})
	want(t, meter(7, rg(0, 0)), spanOf{rg(7, 7), api.OK})
	want(t, meter(9, rg(-100, -99)), spanOf{rg(10, 10), api.OK})
	want(t, worn(cans(1003, 1000, 498, 500)), spanOf{rg(-4, 3), api.OK})
}
