package version_test

import (
	"math"
	"math/rand"
	"regexp"
	"slices"
	"strconv"
	"testing"

	"lading/api"
	"lading/version"
)

// textForm is the text of a version, apart from the greatest part.
var textForm = regexp.MustCompile(`^(0|[1-9][0-9]{0,6})\.(0|[1-9][0-9]{0,6})\.(0|[1-9][0-9]{0,6})\z`)

// parsed returns what Parse should.
func parsed(s string) (api.Version, bool) {
	m := textForm.FindStringSubmatch(s)
	if m == nil {
		return api.Version{}, false
	}
	var parts [3]int
	for i, digits := range m[1:] {
		for _, c := range digits {
			parts[i] = 10*parts[i] + int(c-'0')
		}
		if parts[i] > 1048576 {
			return api.Version{}, false
		}
	}
	return of(parts[0], parts[1], parts[2]), true
}

// sameText requires that Parse, and then Print, say of a string what the model says.
func sameText(t *testing.T, s string) {
	t.Helper()
	want, there := parsed(s)
	v, ok := version.Parse(s)
	if v != want || ok != there {
		t.Fatalf("Parse of %q returns %v, %v, not %v, %v", s, v, ok, want, there)
	}
	if ok && (!version.Right(v) || version.Print(v) != s) {
		t.Fatalf("Print of %v returns %q, not %q", v, version.Print(v), s)
	}
}

// triple returns the three numbers of a version.
func triple(v api.Version) []int {
	return []int{v.Major, v.Minor, v.Patch}
}

// valid reports whether a version is valid.
func valid(v api.Version) bool {
	return !slices.ContainsFunc(triple(v), func(n int) bool { return n < 0 || n > 1048576 })
}

// printed returns what Print should.
func printed(v api.Version) string {
	if !valid(v) {
		return ""
	}
	s := ""
	for _, n := range triple(v) {
		s += "." + strconv.Itoa(n)
	}
	return s[1:]
}

// bumped returns what Bump should.
func bumped(old, now api.Version) int {
	a, b := triple(old), triple(now)
	if !valid(old) || !valid(now) || slices.Compare(b, a) <= 0 {
		return 0
	}
	n := 3
	for i := range a {
		if a[i] != b[i] {
			break
		}
		n--
	}
	return n
}

// marks says for each of some versions whether a list of ranges has it. If they ascend, and the bounds of all ranges are among them, lists with the same marks have the same versions.
func marks(points []api.Version, l []api.Range) []bool {
	marked := make([]bool, len(points))
	for i, p := range points {
		for _, r := range l {
			if slices.Compare(triple(r.Lo), triple(p)) <= 0 && slices.Compare(triple(p), triple(r.Hi)) < 0 {
				marked[i] = true
			}
		}
	}
	return marked
}

// marked returns the normal form of the list that has some of the versions; it never has the last one.
func marked(points []api.Version, has func(i int) bool) []api.Range {
	var l []api.Range
	for i := range points {
		if !has(i) {
			continue
		}
		if len(l) == 0 || l[len(l)-1].Hi != points[i] {
			l = append(l, api.Range{Lo: points[i]})
		}
		l[len(l)-1].Hi = points[i+1]
	}
	return l
}

// sameLists requires that all functions say of two lists of ranges with bounds among some ascending versions what the model says.
func sameLists(t *testing.T, points []api.Version, a, b []api.Range) {
	t.Helper()
	inA, inB := marks(points, a), marks(points, b)
	for _, x := range []struct {
		name string
		got  []api.Range
		has  func(i int) bool
	}{
		{"Norm", version.Norm(a), func(i int) bool { return inA[i] }},
		{"Union", version.Union(a, b), func(i int) bool { return inA[i] || inB[i] }},
		{"Common", version.Common(a, b), func(i int) bool { return inA[i] && inB[i] }},
		{"Minus", version.Minus(a, b), func(i int) bool { return inA[i] && !inB[i] }},
	} {
		if want := marked(points, x.has); !slices.Equal(x.got, want) {
			t.Fatalf("%s of %v and %v returns %v, not %v", x.name, a, b, x.got, want)
		}
	}
	for i, p := range points {
		if version.Has(a, p) != inA[i] {
			t.Fatalf("Has of %v and %v is not %v", a, p, inA[i])
		}
	}
	// P12.7: lists with the same versions are those with the same normal form.
	if slices.Equal(inA, inB) != slices.Equal(version.Norm(a), version.Norm(b)) {
		t.Fatalf("the normal forms of %v and %v are %v and %v", a, b, version.Norm(a), version.Norm(b))
	}
}

// sameNewest requires that Newest says of some versions and ranges what the model says.
func sameNewest(t *testing.T, l []api.Version, ranges []api.Range) {
	t.Helper()
	var want api.Version
	there := false
	for i, has := range marks(l, ranges) {
		if has && (!there || slices.Compare(triple(l[i]), triple(want)) > 0) {
			want, there = l[i], true
		}
	}
	if got, ok := version.Newest(l, ranges); got != want || ok != there {
		t.Fatalf("Newest of %v in %v returns %v, %v, not %v, %v", l, ranges, got, ok, want, there)
	}
}

// everyList calls f with each list of at most n ranges with bounds among some versions.
func everyList(points []api.Version, n int, f func(l []api.Range)) {
	var grow func(l []api.Range)
	grow = func(l []api.Range) {
		f(slices.Clone(l))
		for _, lo := range points {
			for _, hi := range points {
				if len(l) < n {
					grow(append(slices.Clip(l), api.Range{Lo: lo, Hi: hi}))
				}
			}
		}
	}
	grow(nil)
}

// P12.3, P12.7: all pairs of short lists with few bounds, which differ in each part.
func TestEveryPairOfLists(t *testing.T) {
	for _, points := range [][]api.Version{
		{of(1, 0, 0), of(2, 0, 0), of(3, 0, 0), of(4, 0, 0)},
		{of(0, 9, 9), of(1, 0, 5), of(1, 0, 6), of(1, 1, 0)},
		{of(math.MinInt, 0, 0), of(0, 0, math.MinInt), of(0, 0, math.MaxInt), of(0, math.MaxInt, math.MinInt)},
	} {
		var lists [][]api.Range
		everyList(points, 2, func(l []api.Range) { lists = append(lists, l) })
		for _, a := range lists {
			for _, b := range lists {
				sameLists(t, points, a, b)
			}
		}
	}
}

// P12.3, P12.4: all lists of three ranges, alone, with all choices of versions.
func TestEveryList(t *testing.T) {
	points := []api.Version{of(1, 9, 9), of(2, 0, 0), of(2, 0, 1), of(2, 1, 0)}
	choices := [][]api.Version{nil}
	for _, p := range points {
		for _, l := range slices.Clone(choices) {
			choices = append(choices, append(slices.Clip(l), p), append([]api.Version{p}, l...))
		}
	}
	everyList(points, 3, func(l []api.Range) {
		sameLists(t, points, l, nil)
		sameLists(t, points, nil, l)
		for _, versions := range choices {
			sameNewest(t, versions, l)
		}
	})
}

// P12.1, P12.6: all short strings of the bytes that matter.
func TestEveryShortString(t *testing.T) {
	const bytes = "01.9-+ x_"
	var grow func(s string)
	grow = func(s string) {
		sameText(t, s)
		for i := 0; i < len(bytes) && len(s) < 6; i++ {
			grow(s + bytes[i:i+1])
		}
	}
	grow("")
}

// pickNumber returns a number, most often a small one.
func pickNumber(pick func(n int) int) int {
	if pick(6) == 0 {
		return []int{math.MinInt, -1 << 32, -1, 9, 10, api.MaxPart - 1, api.MaxPart, api.MaxPart + 1, 1 << 32, 1<<32 + 1, math.MaxInt}[pick(11)]
	}
	return pick(3)
}

// pickPoints returns ascending versions.
func pickPoints(pick func(n int) int) []api.Version {
	l := []api.Version{of(0, 0, 0)}
	for range 1 + pick(9) {
		l = append(l, of(pickNumber(pick), pickNumber(pick), pickNumber(pick)))
	}
	slices.SortFunc(l, func(x, y api.Version) int { return slices.Compare(triple(x), triple(y)) })
	return slices.Compact(l)
}

// pickList returns a list of ranges with bounds among some versions.
func pickList(pick func(n int) int, points []api.Version) []api.Range {
	var l []api.Range
	for range pick(7) {
		l = append(l, api.Range{Lo: points[pick(len(points))], Hi: points[pick(len(points))]})
	}
	return l
}

// pickVersions returns some of the versions, in any order, maybe more than once, and versions that are nearly one of them.
func pickVersions(pick func(n int) int, points []api.Version) []api.Version {
	var l []api.Version
	for range pick(7) {
		v := points[pick(len(points))]
		if pick(3) == 0 {
			v.Patch += pick(3) - 1
		}
		l = append(l, v)
	}
	return l
}

// compare calls all functions with what is picked.
func compare(t *testing.T, pick func(n int) int) {
	t.Helper()
	points := pickPoints(pick)
	for i, a := range points {
		if version.Right(a) != valid(a) || version.Print(a) != printed(a) {
			t.Fatalf("Right of %v returns %v, Print %q", a, version.Right(a), version.Print(a))
		}
		sameText(t, printed(a))
		for k, b := range points {
			if got := version.Compare(a, b); got != max(-1, min(1, i-k)) {
				t.Fatalf("Compare of %v and %v returns %d", a, b, got)
			}
			if got := version.Bump(a, b); got != bumped(a, b) {
				t.Fatalf("Bump of %v and %v returns %d, not %d", a, b, got, bumped(a, b))
			}
		}
	}
	a, b, c := pickList(pick, points), pickList(pick, points), pickList(pick, points)
	sameLists(t, points, a, b)
	versions := pickVersions(pick, points)
	sameNewest(t, versions, a)
	laws(t, a, b, c)
	notLess(t, versions, pickVersions(pick, points), a, b)
}

// laws requires the laws of sets (P12.7).
func laws(t *testing.T, a, b, c []api.Range) {
	t.Helper()
	union, common, minus := version.Union, version.Common, version.Minus
	for i, x := range [][2][]api.Range{
		{union(a, b), union(b, a)}, {union(union(a, b), c), union(a, union(b, c))}, {union(a, a), version.Norm(a)}, {union(a, nil), version.Norm(a)},
		{common(a, b), common(b, a)}, {common(common(a, b), c), common(a, common(b, c))}, {common(a, a), version.Norm(a)}, {common(a, nil), nil},
		{common(a, union(b, c)), union(common(a, b), common(a, c))}, {union(a, common(b, c)), common(union(a, b), union(a, c))}, {union(a, common(a, b)), version.Norm(a)}, {common(a, union(a, b)), version.Norm(a)},
		{minus(a, minus(a, b)), common(a, b)}, {minus(a, union(b, c)), common(minus(a, b), minus(a, c))}, {minus(a, common(b, c)), union(minus(a, b), minus(a, c))}, {minus(minus(a, b), c), minus(a, union(b, c))},
		{minus(a, a), nil}, {minus(a, nil), version.Norm(a)}, {minus(nil, a), nil}, {common(minus(a, b), b), nil}, {union(minus(a, b), b), union(a, b)}, {union(minus(a, b), common(a, b)), version.Norm(a)},
		{version.Norm(version.Norm(a)), version.Norm(a)}, {union(version.Norm(a), version.Norm(b)), union(a, b)}, {common(version.Norm(a), version.Norm(b)), common(a, b)}, {minus(version.Norm(a), version.Norm(b)), minus(a, b)},
	} {
		if !slices.Equal(x[0], x[1]) {
			t.Fatalf("the law %d does not hold for %v, %v and %v: %v is not %v", i, a, b, c, x[0], x[1])
		}
	}
}

// notLess requires that Newest is not less with more versions and with more ranges (P12.8).
func notLess(t *testing.T, versions, more []api.Version, a, b []api.Range) {
	t.Helper()
	v, ok := version.Newest(versions, a)
	for _, x := range []struct {
		l      []api.Version
		ranges []api.Range
	}{
		{slices.Concat(versions, more), a}, {slices.Concat(more, versions), a}, {versions, slices.Concat(a, b)}, {versions, slices.Concat(b, a)}, {versions, version.Union(a, b)}, {slices.Concat(versions, more), version.Union(a, b)},
	} {
		if w, still := version.Newest(x.l, x.ranges); ok && (!still || slices.Compare(triple(w), triple(v)) < 0) {
			t.Fatalf("Newest of %v in %v returns %v, and of %v in %v %v, %v", versions, a, v, x.l, x.ranges, w, still)
		}
	}
}

// P12.1 to P12.8: random calls.
func TestAnyCalls(t *testing.T) {
	for seed := range 20000 {
		compare(t, rand.New(rand.NewSource(int64(seed))).Intn)
	}
}

// P12.1, P12.6: any strings.
func FuzzParse(f *testing.F) {
	f.Add("1.2.3")
	f.Add("01.2.3")
	f.Add("1048576.1048577.0")
	f.Add("1.2.3.4")
	f.Add("+1.-2.18446744073709551616")
	f.Fuzz(sameText)
}

// P12.1 to P12.8: any calls.
func FuzzCalls(f *testing.F) {
	f.Add([]byte("\x09\x00\x01\x02\x01\x01\x00\x02\x02\x01\x01"))
	f.Add([]byte("ranges and versions and more of them, and others"))
	f.Fuzz(func(t *testing.T, data []byte) {
		compare(t, func(n int) int {
			if len(data) == 0 {
				return 0
			}
			b := data[0]
			data = data[1:]
			return int(b) % n
		})
	})
}
