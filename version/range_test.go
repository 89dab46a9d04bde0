package version_test

import (
	"fmt"
	"math"
	"slices"
	"testing"

	"lading/api"
	"lading/version"
)

// majors returns the ranges between versions with some numbers as Major: from the first to the second, from the third to the fourth, and so on.
func majors(l ...int) []api.Range {
	var ranges []api.Range
	for i := 0; i+1 < len(l); i += 2 {
		ranges = append(ranges, api.Range{Lo: of(l[i], 0, 0), Hi: of(l[i+1], 0, 0)})
	}
	return ranges
}

// same requires some ranges.
func same(t *testing.T, got []api.Range, want ...api.Range) {
	t.Helper()
	if !slices.Equal(got, want) {
		t.Errorf("the ranges are %v, not %v", got, want)
	}
}

// P12.3: what one list has.
func TestHas(t *testing.T) {
	l := []api.Range{
		{Lo: of(1, 2, 3), Hi: of(1, 2, 5)}, {Lo: of(3, 0, 0), Hi: of(2, 0, 0)}, {Lo: of(4, 0, 0), Hi: of(4, 0, 0)}, {Lo: of(7, 0, 0), Hi: of(9, 0, 0)},
		{Lo: of(5, 0, 0), Hi: of(8, 0, 0)}, {Lo: of(math.MinInt, 0, 0), Hi: of(-5, 0, 0)}, {Lo: of(math.MaxInt, 0, 0), Hi: of(math.MaxInt, math.MaxInt, math.MaxInt)},
	}
	for v, want := range map[api.Version]bool{
		of(1, 2, 2): false, of(1, 2, 3): true, of(1, 2, 4): true, of(1, 2, 5): false, of(1, 3, 4): false, of(1, 1, 4): false, of(0, 2, 4): false, of(2, 2, 4): false,
		of(1, 2, math.MaxInt): false, of(1, 2, math.MinInt): false, of(2, 0, 0): false, of(2, 5, 0): false, of(3, 0, 0): false, of(4, 0, 0): false, of(3, 9, 9): false, of(4, 0, 1): false,
		of(4, math.MaxInt, 0): false, of(5, 0, -1): false, of(5, 0, 0): true, of(6, -1, 0): true, of(7, 0, 0): true, of(7, 5, 5): true, of(8, 0, 0): true, of(8, math.MaxInt, math.MaxInt): true,
		of(9, math.MinInt, 0): true, of(9, 0, -1): true, of(9, 0, 0): false, of(math.MinInt, math.MaxInt, 0): true, of(math.MinInt, -1, 0): false, of(math.MinInt, 0, 0): true, of(-6, 0, 0): true,
		of(-5, 0, -1): true, of(-5, 0, 0): false, of(0, 0, 0): false, of(math.MaxInt, -1, 0): false, of(math.MaxInt, 0, 0): true, of(math.MaxInt, math.MaxInt, math.MaxInt-1): true,
		of(math.MaxInt, math.MaxInt, math.MaxInt): false,
	} {
		if version.Has(l, v) != want {
			t.Errorf("Has of %v is not %v", v, want)
		}
		if version.Has(nil, v) || version.Has([]api.Range{}, v) || version.Has([]api.Range{{Lo: v, Hi: v}}, v) {
			t.Errorf("an empty list has %v", v)
		}
	}
}

// P12.3: the normal form.
func TestNorm(t *testing.T) {
	for i, x := range []struct{ l, want []api.Range }{
		{nil, nil}, {[]api.Range{}, nil}, {majors(1, 1), nil}, {majors(2, 1), nil}, {majors(0, 0, 3, 2, 9, -9), nil}, {majors(1, 2), majors(1, 2)},
		{majors(1, 2, 2, 3, 5, 4), majors(1, 3)}, {majors(2, 3, 1, 2), majors(1, 3)}, {majors(1, 2, 3, 4), majors(1, 2, 3, 4)}, {majors(3, 4, 1, 2), majors(1, 2, 3, 4)},
		{majors(1, 9, 2, 3), majors(1, 9)}, {majors(2, 3, 1, 9), majors(1, 9)}, {majors(1, 5, 2, 9), majors(1, 9)}, {majors(1, 5, 1, 9), majors(1, 9)}, {majors(1, 9, 5, 9), majors(1, 9)},
		{majors(1, 9, 1, 9, 1, 9), majors(1, 9)}, {majors(1, 9, 2, 3, 5, 12, 4, 6), majors(1, 12)}, {majors(1, 3, 2, 4, 6, 8, 7, 9), majors(1, 4, 6, 9)},
		{majors(8, 9, 1, 2, 6, 7, 3, 4), majors(1, 2, 3, 4, 6, 7, 8, 9)}, {majors(1, 2, 2, 2, 2, 3), majors(1, 3)}, {majors(1, 2, 3, 3, 4, 5), majors(1, 2, 4, 5)},
		{majors(1, 2, 4, 1, 4, 5), majors(1, 2, 4, 5)}, {majors(1, 9, 8, 2), majors(1, 9)}, {majors(5, 6, 4, 5, 3, 4, 2, 3, 1, 2), majors(1, 6)},
		{majors(math.MinInt, math.MaxInt), majors(math.MinInt, math.MaxInt)}, {majors(math.MaxInt, math.MinInt), nil}, {majors(math.MinInt, 0, 0, math.MaxInt), majors(math.MinInt, math.MaxInt)},
		{[]api.Range{{Lo: of(1, 0, 0), Hi: of(1, 0, 1)}, {Lo: of(1, 0, 2), Hi: of(1, 0, 3)}}, []api.Range{{Lo: of(1, 0, 0), Hi: of(1, 0, 1)}, {Lo: of(1, 0, 2), Hi: of(1, 0, 3)}}},
		{[]api.Range{{Lo: of(1, 0, 0), Hi: of(1, 0, math.MaxInt)}, {Lo: of(1, 1, math.MinInt), Hi: of(1, 2, 0)}}, []api.Range{{Lo: of(1, 0, 0), Hi: of(1, 0, math.MaxInt)}, {Lo: of(1, 1, math.MinInt), Hi: of(1, 2, 0)}}},
		{[]api.Range{{Lo: of(1, 2, 0), Hi: of(1, 3, 0)}, {Lo: of(1, 2, 5), Hi: of(1, 2, 7)}, {Lo: of(1, 3, 0), Hi: of(1, 3, 0)}}, []api.Range{{Lo: of(1, 2, 0), Hi: of(1, 3, 0)}}},
	} {
		if got := version.Norm(x.l); !slices.Equal(got, x.want) {
			t.Errorf("%d: Norm of %v returns %v, not %v", i, x.l, got, x.want)
		}
	}
}

// P12.3: what one list has, both have, and only one of them has.
func TestTwoLists(t *testing.T) {
	for i, x := range []struct{ a, b, union, common, minus, back []api.Range }{
		{nil, nil, nil, nil, nil, nil},
		{majors(1, 3), nil, majors(1, 3), nil, majors(1, 3), nil},
		{majors(1, 3), majors(1, 3), majors(1, 3), majors(1, 3), nil, nil},
		{majors(1, 3), majors(2, 4), majors(1, 4), majors(2, 3), majors(1, 2), majors(3, 4)},
		{majors(1, 3), majors(3, 4), majors(1, 4), nil, majors(1, 3), majors(3, 4)},
		{majors(1, 3), majors(4, 5), majors(1, 3, 4, 5), nil, majors(1, 3), majors(4, 5)},
		{majors(1, 9), majors(2, 3, 5, 6), majors(1, 9), majors(2, 3, 5, 6), majors(1, 2, 3, 5, 6, 9), nil},
		{majors(1, 9), majors(1, 3, 5, 9), majors(1, 9), majors(1, 3, 5, 9), majors(3, 5), nil},
		{majors(1, 9), majors(1, 3, 3, 9), majors(1, 9), majors(1, 9), nil, nil},
		{majors(1, 9), majors(0, 10), majors(0, 10), majors(1, 9), nil, majors(0, 1, 9, 10)},
		{majors(1, 3, 5, 7), majors(2, 6), majors(1, 7), majors(2, 3, 5, 6), majors(1, 2, 6, 7), majors(3, 5)},
		{majors(1, 3, 5, 7), majors(3, 5), majors(1, 7), nil, majors(1, 3, 5, 7), majors(3, 5)},
		{majors(1, 2, 3, 4, 5, 6), majors(2, 3, 4, 5), majors(1, 6), nil, majors(1, 2, 3, 4, 5, 6), majors(2, 3, 4, 5)},
		{majors(1, 3, 2, 5), majors(4, 6, 5, 7), majors(1, 7), majors(4, 5), majors(1, 4), majors(5, 7)},
		{majors(1, 5, 2, 3), majors(1, 5), majors(1, 5), majors(1, 5), nil, nil},
		{majors(1, 5, 2, 3), majors(2, 3, 2, 3, 2, 3), majors(1, 5), majors(2, 3), majors(1, 2, 3, 5), nil},
		{majors(5, 1, 3, 3), majors(9, 8), nil, nil, nil, nil},
		{majors(1, 5), majors(4, 2, 3, 3), majors(1, 5), nil, majors(1, 5), nil},
		{majors(1, 5, 9, 1), majors(5, 9, 3, 2), majors(1, 9), nil, majors(1, 5), majors(5, 9)},
		{majors(math.MinInt, math.MaxInt), majors(0, 1), majors(math.MinInt, math.MaxInt), majors(0, 1), majors(math.MinInt, 0, 1, math.MaxInt), nil},
	} {
		for _, call := range []struct {
			name      string
			got, want []api.Range
		}{
			{"Union", version.Union(x.a, x.b), x.union}, {"Union back", version.Union(x.b, x.a), x.union}, {"Norm of all", version.Norm(slices.Concat(x.a, x.b)), x.union},
			{"Common", version.Common(x.a, x.b), x.common}, {"Common back", version.Common(x.b, x.a), x.common}, {"Minus", version.Minus(x.a, x.b), x.minus}, {"Minus back", version.Minus(x.b, x.a), x.back},
		} {
			if !slices.Equal(call.got, call.want) {
				t.Errorf("%d: %s returns %v, not %v", i, call.name, call.got, call.want)
			}
		}
	}
}

// P12.4: the greatest version that the ranges have.
func TestNewest(t *testing.T) {
	low, high := of(math.MinInt, math.MinInt, math.MinInt), of(math.MaxInt, math.MaxInt, math.MaxInt-1)
	everything := []api.Range{{Lo: low, Hi: of(math.MaxInt, math.MaxInt, math.MaxInt)}}
	for i, x := range []struct {
		l      []api.Version
		ranges []api.Range
		want   api.Version
		ok     bool
	}{
		{nil, nil, of(0, 0, 0), false},
		{nil, majors(0, 9), of(0, 0, 0), false},
		{[]api.Version{of(1, 0, 0)}, nil, of(0, 0, 0), false},
		{[]api.Version{of(1, 0, 0)}, majors(1, 1), of(0, 0, 0), false},
		{[]api.Version{of(1, 0, 0)}, majors(2, 1), of(0, 0, 0), false},
		{[]api.Version{of(1, 0, 0)}, majors(0, 1), of(0, 0, 0), false},
		{[]api.Version{of(1, 0, 0)}, majors(1, 2), of(1, 0, 0), true},
		{[]api.Version{of(0, 0, 0)}, majors(0, 1), of(0, 0, 0), true},
		{[]api.Version{of(0, 0, 0), of(-1, 0, 0)}, majors(-1, 1), of(0, 0, 0), true},
		{[]api.Version{of(0, 0, 0), of(-1, 0, 0)}, majors(-1, 0), of(-1, 0, 0), true},
		{[]api.Version{of(1, 0, 0), of(2, 9, 9), of(3, 0, 0)}, majors(1, 3), of(2, 9, 9), true},
		{[]api.Version{of(3, 0, 0), of(2, 9, 9), of(1, 0, 0)}, majors(1, 3), of(2, 9, 9), true},
		{[]api.Version{of(1, 0, 0), of(3, 0, 0), of(2, 0, 0)}, majors(3, 4, 1, 2), of(3, 0, 0), true},
		{[]api.Version{of(4, 0, 0), of(1, 5, 0), of(4, 9, 9), of(5, 0, 0), of(2, 0, 0)}, majors(1, 2, 4, 5), of(4, 9, 9), true},
		{[]api.Version{of(4, 0, 0), of(1, 5, 0), of(4, 9, 9), of(5, 0, 0), of(2, 0, 0)}, majors(4, 5, 6, 5, 1, 2), of(4, 9, 9), true},
		{[]api.Version{of(4, 0, 0), of(1, 5, 0), of(4, 9, 9), of(5, 0, 0), of(2, 0, 0)}, majors(2, 3), of(2, 0, 0), true},
		{[]api.Version{of(4, 0, 0), of(1, 5, 0), of(4, 9, 9), of(5, 0, 0), of(2, 0, 0)}, majors(3, 4), of(0, 0, 0), false},
		{[]api.Version{of(1, 9, 0), of(1, 10, 0), of(1, 2, 99)}, majors(1, 2), of(1, 10, 0), true},
		{[]api.Version{of(2, 0, 0), of(2, 0, 0), of(2, 0, 0)}, majors(1, 5, 2, 3), of(2, 0, 0), true},
		{[]api.Version{of(8, 0, 0), of(6, 0, 0)}, majors(1, 9, 2, 3), of(8, 0, 0), true},
		{[]api.Version{of(1, 0, api.MaxPart+1), of(1, 0, 0), of(1, -1, 0)}, majors(1, 2), of(1, 0, api.MaxPart+1), true},
		{[]api.Version{of(-3, 0, 0), of(-2, 0, 0)}, majors(-9, 0), of(-2, 0, 0), true},
		{[]api.Version{low, high, of(0, 0, 0)}, everything, high, true},
		{[]api.Version{low}, everything, low, true},
		{[]api.Version{of(math.MaxInt, math.MaxInt, math.MaxInt)}, everything, of(0, 0, 0), false},
	} {
		if got, ok := version.Newest(x.l, x.ranges); got != x.want || ok != x.ok {
			t.Errorf("%d: Newest returns %v, %v, not %v, %v", i, got, ok, x.want, x.ok)
		}
	}
}

// P12.5, P3: nothing is written to the arguments, what is beyond their length is not read, and results share no memory with them or with each other.
func TestMemory(t *testing.T) {
	a, b := majors(5, 6, 3, 4, 1, 2, 0, 99), majors(8, 9, 7, 8, 0, 99)
	l := []api.Version{of(1, 0, 0), of(5, 0, 0), of(5, 9, 9)}
	before := fmt.Sprint(a, b, l)
	var results [][]api.Range
	var want []string
	for range 2 {
		results = append(results, version.Norm(a[:3]), version.Norm(b[:2]), version.Norm(version.Norm(a[:3])), version.Union(a[:3], b[:2]), version.Common(a[:3], a[:2]), version.Minus(a[:3], b[:2]), version.Union(nil, a[:3]), version.Minus(a[:3], nil))
		want = append(want, fmt.Sprint(majors(1, 2, 3, 4, 5, 6)), fmt.Sprint(majors(7, 9)), fmt.Sprint(majors(1, 2, 3, 4, 5, 6)), fmt.Sprint(majors(1, 2, 3, 4, 5, 6, 7, 9)), fmt.Sprint(majors(3, 4, 5, 6)))
		for range 3 {
			want = append(want, fmt.Sprint(majors(1, 2, 3, 4, 5, 6)))
		}
	}
	if v, ok := version.Newest(l[:2], a[:3]); v != of(5, 0, 0) || !ok || version.Has(a[:3], of(2, 5, 0)) {
		t.Error("an element beyond the length was read")
	}
	if after := fmt.Sprint(a, b, l); after != before {
		t.Errorf("the arguments were %s, and are %s", before, after)
	}
	for i := range a {
		a[i] = api.Range{}
	}
	for i := range b {
		b[i] = api.Range{}
	}
	for i, got := range results {
		if fmt.Sprint(got) != want[i] {
			t.Errorf("the result %d is %v, not %s", i, got, want[i])
		}
		for k := range got {
			got[k] = api.Range{Hi: of(9, 9, 9)}
		}
		_ = append(got, api.Range{})
	}
}

// P12.3, P12.4, P1: long lists, in any order.
func TestLongLists(t *testing.T) {
	const n = 100000
	odd, even, all, nested := make([]api.Range, n), make([]api.Range, n), make([]api.Version, n), make([]api.Range, n)
	for i := range n {
		// 7919 has no factor in common with n, so each number from 0 to n-1 comes up once.
		k := i * 7919 % n
		odd[i] = api.Range{Lo: of(0, 2*k+1, 0), Hi: of(0, 2*k+2, 0)}
		even[n-1-i] = api.Range{Lo: of(0, 2*k, 0), Hi: of(0, 2*k+1, 0)}
		nested[i] = api.Range{Lo: of(0, k, 0), Hi: of(0, 2*n-k, 0)}
		all[i] = of(0, 2*k, 0)
	}
	sorted := slices.SortedFunc(slices.Values(odd), func(x, y api.Range) int { return x.Lo.Minor - y.Lo.Minor })
	same(t, version.Union(odd, even), api.Range{Lo: of(0, 0, 0), Hi: of(0, 2*n, 0)})
	same(t, version.Common(odd, even))
	same(t, version.Norm(nested), api.Range{Lo: of(0, 0, 0), Hi: of(0, 2*n, 0)})
	for _, got := range [][]api.Range{version.Norm(odd), version.Minus(odd, even), version.Minus(nested, even), version.Common(nested, odd)} {
		if !slices.Equal(got, sorted) {
			t.Errorf("%d ranges, not the %d odd ones", len(got), n)
		}
	}
	if v, ok := version.Newest(all, odd); ok {
		t.Error(v)
	}
	if v, ok := version.Newest(all, even); v != of(0, 2*n-2, 0) || !ok {
		t.Error(v, ok)
	}
	slices.SortFunc(all, version.Compare)
	if v, ok := version.Newest(all, nested); v != of(0, 2*n-2, 0) || !ok {
		t.Error(v, ok)
	}
	if !version.Has(odd, of(0, 2*n-1, 5)) || version.Has(odd, of(0, 2*n-2, 5)) {
		t.Error("the last odd range")
	}
}
