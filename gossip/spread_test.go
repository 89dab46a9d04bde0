package gossip_test

import (
	"math"
	"slices"
	"testing"

	"lading/api"
	"lading/gossip"
	"lading/seal"
	"lading/view"
)

// spreads requires what Spread returns, and that it changes neither of its lists (P9.4).
func spreads(t *testing.T, l []*view.View, order [][2]int, n int, x, y api.Signed, there bool) {
	t.Helper()
	views, meetings := slices.Clone(l), slices.Clone(order)
	gotN, gotX, gotY, is := gossip.Spread(l, order)
	if gotN != n || gotX != x || gotY != y || is != there {
		t.Errorf("Spread in the order %v returns %d, %v, %v, %v, not %d, %v, %v, %v", order, gotN, gotX, gotY, is, n, x, y, there)
	}
	if !slices.Equal(views, l) || !slices.Equal(meetings, order) {
		t.Errorf("Spread changes its lists, to %v and %v", l, order)
	}
}

// four returns a ring and four views: one with two entries at 7, one with nothing, one with one entry at 8, one with the entry 0.
func four(t *testing.T) (*seal.Ring, []*view.View) {
	t.Helper()
	r := seal.New()
	return r, []*view.View{newView(t, r, 3, size(2, 7)), newView(t, r, 3), newView(t, r, 3, size(1, 8)), newView(t, r, 3, entry(0, "1:a,"))}
}

// P9.3: the meetings are performed one after the other, up to the first one with a clash, and no further.
func TestSpread(t *testing.T) {
	two, one, a := size(2, 7), size(1, 8), entry(0, "1:a,")
	for _, c := range []struct {
		order [][2]int
		n     int
		clash []string
		want  [4][]string
	}{
		{nil, 0, nil, [4][]string{{two}, nil, {one}, {a}}},
		{[][2]int{}, 0, nil, [4][]string{{two}, nil, {one}, {a}}},
		{[][2]int{{0, 2}}, 0, []string{two, one}, [4][]string{{two}, nil, {one}, {a}}},
		{[][2]int{{2, 0}}, 0, []string{one, two}, [4][]string{{two}, nil, {one}, {a}}},
		{[][2]int{{0, 2}, {0, 3}}, 0, []string{two, one}, [4][]string{{two}, nil, {one}, {a}}},
		{[][2]int{{0, 1}}, 1, nil, [4][]string{{two}, {two}, {one}, {a}}},
		{[][2]int{{0, 1}, {1, 2}}, 1, []string{two, one}, [4][]string{{two}, {two}, {one}, {a}}},
		{[][2]int{{0, 1}, {2, 1}, {1, 3}}, 1, []string{one, two}, [4][]string{{two}, {two}, {one}, {a}}},
		{[][2]int{{1, 2}, {0, 1}}, 1, []string{two, one}, [4][]string{{two}, {one}, {one}, {a}}},
		{[][2]int{{0, 3}, {3, 1}, {2, 1}}, 2, []string{one, two}, [4][]string{{two, a}, {a, two}, {one}, {a, two}}},
		{[][2]int{{3, 1}, {0, 3}, {1, 2}}, 3, nil, [4][]string{{two, a}, {a, one}, {one, a}, {a, two}}},
		{[][2]int{{3, 1}, {0, 3}, {1, 2}, {3, 1}, {0, 1}}, 3, []string{two, one}, [4][]string{{two, a}, {a, one}, {one, a}, {a, two}}},
		{[][2]int{{0, 0}, {1, 1}, {2, 2}, {3, 3}}, 4, nil, [4][]string{{two}, nil, {one}, {a}}},
		{[][2]int{{0, 1}, {0, 1}, {1, 0}, {0, 1}}, 4, nil, [4][]string{{two}, {two}, {one}, {a}}},
		{[][2]int{{3, 2}, {2, 3}, {1, 3}}, 3, nil, [4][]string{{two}, {a, one}, {one, a}, {a, one}}},
	} {
		r, l := four(t)
		if c.clash == nil {
			spreads(t, l, c.order, c.n, api.Signed{}, api.Signed{}, false)
		} else {
			spreads(t, l, c.order, c.n, r.Sign(3, c.clash[0]), r.Sign(3, c.clash[1]), true)
		}
		for i, want := range c.want {
			has(t, r, l[i], want...)
		}
	}
}

// P9.3: an index that is none of the list means no meeting, though the pair counts.
func TestSpreadIndices(t *testing.T) {
	for _, i := range []int{-1, -2, -4, 4, 5, 8, 1 << 32, 1<<32 + 2, math.MaxInt, math.MinInt, math.MinInt + 2} {
		r, l := four(t)
		spreads(t, l, [][2]int{{i, 0}, {0, i}, {i, i}, {2, i}, {i, 2}}, 5, api.Signed{}, api.Signed{}, false)
		spreads(t, l, [][2]int{{i, 0}, {i, 2}, {0, i}, {0, 2}, {i, 2}}, 3, r.Sign(3, size(2, 7)), r.Sign(3, size(1, 8)), true)
		has(t, r, l[0], size(2, 7))
		has(t, r, l[2], size(1, 8))
		spreads(t, l, [][2]int{{i, 0}, {0, 1}, {2, i}, {i, 1}}, 4, api.Signed{}, api.Signed{}, false)
		has(t, r, l[1], size(2, 7))
	}
	for _, l := range [][]*view.View{nil, {}} {
		spreads(t, l, [][2]int{{0, 0}, {0, 1}, {-1, 0}}, 3, api.Signed{}, api.Signed{}, false)
		spreads(t, l, nil, 0, api.Signed{}, api.Signed{}, false)
	}
}

// P9.3: views that are missing, of other logs, or twice in the list.
func TestSpreadOthers(t *testing.T) {
	r, l := four(t)
	l[1] = nil
	l = append(l, newView(t, r, 4, size(1, 8)), l[0], newView(t, r, 4, size(0, 9)))
	spreads(t, l, [][2]int{{0, 1}, {1, 2}, {1, 1}, {0, 4}, {4, 2}, {0, 5}, {5, 0}, {3, 4}}, 8, api.Signed{}, api.Signed{}, false)
	for i, want := range map[int]string{0: size(2, 7), 2: size(1, 8), 3: entry(0, "1:a,"), 4: size(1, 8), 6: size(0, 9)} {
		has(t, r, l[i], want)
	}
	spreads(t, l, [][2]int{{3, 5}, {3, 2}}, 1, r.Sign(3, size(2, 7)), r.Sign(3, size(1, 8)), true)
	has(t, r, l[0], size(2, 7), entry(0, "1:a,"))
	spreads(t, l, [][2]int{{0, 4}, {4, 6}}, 1, r.Sign(4, size(1, 8)), r.Sign(4, size(0, 9)), true)
}

// P9.3: elements behind the ends of the lists are no views and no pairs.
func TestSpreadBehind(t *testing.T) {
	r, l := four(t)
	order := [][2]int{{0, 1}, {0, 2}, {1, 2}}
	spreads(t, l[:2], order, 3, api.Signed{}, api.Signed{}, false)
	spreads(t, l, order[:1], 1, api.Signed{}, api.Signed{}, false)
	has(t, r, l[2], size(1, 8))
}

// P9.3: a claim goes along a line of views, and the first view that denies it ends this.
func TestSpreadLine(t *testing.T) {
	for n := 2; n < 30; n++ {
		r := seal.New()
		l, order := []*view.View{newView(t, r, 3, size(2, 7))}, [][2]int{}
		for i := 1; i < n; i++ {
			l = append(l, newView(t, r, 3, entry(i, "1:a,")))
			order = append(order, [2]int{i - 1, i})
		}
		spreads(t, l, order, n-1, api.Signed{}, api.Signed{}, false)
		for i, v := range l {
			// Each view is told what the one before it knows then, and later the claim of the next one.
			var want []string
			for k := i; k > 0; k-- {
				want = append(want, entry(k, "1:a,"))
			}
			want = append(want, size(2, 7))
			if i+1 < n {
				want = append(want, entry(i+1, "1:a,"))
			}
			has(t, r, v, want...)
		}
		l = append(l, newView(t, r, 3, size(1, 8)))
		spreads(t, l, append(order, [2]int{n, n - 1}, [2]int{n - 1, n}), n-1, r.Sign(3, size(1, 8)), r.Sign(3, size(2, 7)), true)
	}
}
