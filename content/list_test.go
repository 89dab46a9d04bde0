package content_test

import (
	"math"
	"slices"
	"strings"
	"testing"

	"lading/api"
	"lading/content"
)

// xs returns a content of n bytes.
func xs(n int) string { return strings.Repeat("x", n) }

// twoLetters returns all contents of up to two bytes: 1 + 256 + 65536 contents with 131328 bytes.
func twoLetters() []string {
	l := []string{""}
	for a := range 256 {
		l = append(l, string([]byte{byte(a)}))
		for b := range 256 {
			l = append(l, string([]byte{byte(a), byte(b)}))
		}
	}
	return l
}

// full returns a right list with n bytes less than there may be.
func full(n int) []string { return []string{"ab", xs(content.Most - 3 - n), "", "c"} }

// sample is a list of contents, and why it is not right, or "" if it is.
type sample struct {
	list []string
	why  string
}

func samples() []sample {
	all := twoLetters()
	return []sample{
		{nil, ""},
		{[]string{}, ""},
		{[]string{""}, ""},
		{[]string{"a"}, ""},
		{[]string{"", "a"}, ""},
		{[]string{"a", ""}, ""},
		{[]string{"a", "b", "ab", "ba", "aa", "aab"}, ""},
		{[]string{"a", "A", "a ", " a", "a\n", "a\x00", "\x00a", "\x00", "\x00\x00"}, ""},
		{[]string{"\xff", "\xfe", "\ufffd", "\xff\xff"}, ""},
		{[]string{"\u00e9", "e\u0301"}, ""},
		{[]string{xs(1000), xs(1001), xs(999) + "y", "y" + xs(999), xs(500) + "y" + xs(499)}, ""},
		{all, ""},
		{[]string{xs(content.Most)}, ""},
		{[]string{xs(content.Most), ""}, ""},
		{[]string{xs(content.Most - 1), "y"}, ""},
		{[]string{"y", xs(content.Most - 1)}, ""},
		{full(0), ""},
		{append(all[:len(all):len(all)], xs(content.Most-131328)), ""},
		{[]string{"", ""}, "two are equal"},
		{[]string{"a", "a"}, "two are equal"},
		{[]string{"a", "b", "b", "c"}, "two are equal"},
		{[]string{"a", "b", "c", "a"}, "two are equal"},
		{[]string{"", "a", "b", ""}, "two are equal"},
		{[]string{"a", "a", "a"}, "all are equal"},
		{[]string{"a", "b", "a", "b"}, "twice two are equal"},
		{[]string{xs(1000), "y", strings.Repeat("x", 1000)}, "two are equal"},
		{[]string{"\u00e9", "\xc3\xa9"}, "two are equal"},
		{append(all[:len(all):len(all)], "zz"), "two are equal"},
		{[]string{xs(content.Most + 1)}, "one byte too much"},
		{[]string{xs(content.Most), "y"}, "one byte too much"},
		{[]string{"y", xs(content.Most)}, "one byte too much"},
		{[]string{xs(content.Most / 2), "", xs(content.Most/2 + 1)}, "one byte too much"},
		{append(all[:len(all):len(all)], xs(content.Most-131328+1)), "one byte too much"},
		{[]string{xs(content.Most), xs(content.Most)}, "both"},
		{[]string{xs(content.Most), "y", "y"}, "both"},
	}
}

// P4.1: which lists are right.
func TestRight(t *testing.T) {
	for i, c := range samples() {
		if content.Right(c.list) != (c.why == "") {
			t.Errorf("list %d with %d contents is taken for right, or not, but: %q", i, len(c.list), c.why)
		}
	}
}

// P4.1 and P3: of a slice only the elements up to its length count.
func TestBeyondLength(t *testing.T) {
	l := []string{"a", "b", "a", xs(content.Most)}
	if !content.Right(l[:2]) || content.Right(l[:3]) || !content.Right(l[1:3]) || content.Right(l[1:4]) {
		t.Error("Right reads beyond a slice, or not all of it")
	}
	if n := content.Print(l[1:2], "a"); n != -1 {
		t.Errorf("a is found at %d beyond the slice", n)
	}
	if s, ok := content.Text(l[:2], 2); s != "" || ok {
		t.Errorf("%q, %v is returned from beyond the slice", s, ok)
	}
	if texts, e := content.Texts(l[:2], []int{2}); len(texts) != 0 || e != api.ErrNone {
		t.Errorf("%q, %d is returned from beyond the slice", texts, e)
	}
}

// P4.1: the print is the least index in any list, or -1.
func TestPrint(t *testing.T) {
	large := []string{xs(content.Most), "y", xs(content.Most + 1), "y"}
	for _, c := range []struct {
		list []string
		s    string
		want int
	}{
		{nil, "", -1}, {nil, "a", -1}, {[]string{}, "", -1}, {[]string{""}, "", 0}, {[]string{""}, "a", -1}, {[]string{"a"}, "", -1},
		{[]string{"ab", ""}, "", 1}, {[]string{"ab", ""}, "x", -1}, {[]string{"ab", ""}, "ab", 0}, {[]string{"ab", ""}, "a", -1}, {[]string{"ab", ""}, "abc", -1},
		{[]string{"a", "b", "c"}, "a", 0}, {[]string{"a", "b", "c"}, "b", 1}, {[]string{"a", "b", "c"}, "c", 2}, {[]string{"a", "b", "c"}, "C", -1},
		{[]string{"a", "a"}, "a", 0}, {[]string{"b", "a", "a", "a"}, "a", 1}, {[]string{"b", "a", "b", "a"}, "a", 1}, {[]string{"b", "a", "b", "a"}, "b", 0},
		{[]string{"", "", ""}, "", 0}, {[]string{"x", "", ""}, "", 1},
		{[]string{"\xff", "\ufffd"}, "\ufffd", 1}, {[]string{"\xff", "\ufffd"}, "\xfe", -1}, {[]string{"a\x00", "a"}, "a", 1},
		{large, xs(content.Most), 0}, {large, xs(content.Most + 1), 2}, {large, "y", 1}, {large, xs(content.Most - 1), -1}, {large, "", -1},
	} {
		if n := content.Print(c.list, c.s); n != c.want {
			t.Errorf("Print(%.60q, %.20q) is %d, not %d", c.list, c.s, n, c.want)
		}
	}
}

// noIndices returns ints that are no index of a list of n contents.
func noIndices(n int) []int {
	return []int{-1, -2, -n, n, n + 1, math.MinInt, math.MinInt + 1, math.MaxInt, 1 << 32, -1 << 32, 1 << 31, -1 << 31, math.MinInt + n}
}

// P4.1: Text returns the elements of any list, and nothing else.
func TestText(t *testing.T) {
	for i, c := range samples() {
		for n, want := range c.list {
			if s, ok := content.Text(c.list, n); s != want || !ok {
				t.Fatalf("list %d: Text(%d) is %.60q, %v, not %.60q", i, n, s, ok, want)
			}
		}
		for _, n := range noIndices(len(c.list)) {
			if s, ok := content.Text(c.list, n); s != "" || ok {
				t.Errorf("list %d: Text(%d) is %.60q, %v", i, n, s, ok)
			}
		}
	}
}

// P4.2: the results of Add.
func TestAdd(t *testing.T) {
	some := []string{"ab", "", "c"}
	for _, c := range []struct {
		list []string
		s    string
		want int
		e    api.Errno
	}{
		{nil, "ab", 0, api.OK}, {nil, "", 0, api.OK}, {[]string{}, "ab", 0, api.OK}, {[]string{"ab"}, "", 1, api.OK},
		{some, "ab", 0, api.OK}, {some, "", 1, api.OK}, {some, "c", 2, api.OK}, {some, "a", 3, api.OK}, {some, "abc", 3, api.OK}, {some, "\x00", 3, api.OK},
		{nil, xs(content.Most), 0, api.OK}, {[]string{""}, xs(content.Most), 1, api.OK}, {[]string{xs(content.Most)}, "", 1, api.OK},
		{full(1), "d", 4, api.OK}, {full(2), "de", 4, api.OK}, {full(1000), strings.Repeat("y", 1000), 4, api.OK},
		{full(0), "ab", 0, api.OK}, {full(0), "", 2, api.OK}, {full(0), "c", 3, api.OK}, {full(0), xs(content.Most - 3), 1, api.OK},
		{full(0), "d", 0, api.ErrFull}, {full(1), "de", 0, api.ErrFull}, {full(1000), strings.Repeat("y", 1001), 0, api.ErrFull}, {[]string{xs(content.Most)}, "y", 0, api.ErrFull},
		{nil, xs(content.Most + 1), 0, api.ErrFull}, {[]string{""}, xs(content.Most + 1), 0, api.ErrFull}, {[]string{"a"}, xs(content.Most), 0, api.ErrFull},
		{some, xs(content.Most), 0, api.ErrFull}, {[]string{"a"}, xs(3 * content.Most), 0, api.ErrFull},
	} {
		want := c.list
		switch {
		case c.e != api.OK:
			want = nil
		case c.want == len(c.list):
			want = append(slices.Clone(c.list), c.s)
		}
		if l, n, e := content.Add(c.list, c.s); !slices.Equal(l, want) || n != c.want || e != c.e {
			t.Errorf("Add(%.60q, %.20q) is %.60q, %d, %d, not %d, %d", c.list, c.s, l, n, e, c.want, c.e)
		}
	}
}

// P4.2: ErrArg comes before ErrFull, also for a content that is there already.
func TestAddErrArg(t *testing.T) {
	for i, c := range samples() {
		for _, s := range append([]string{"new", "", "a", xs(content.Most + 1)}, c.list[:min(3, len(c.list))]...) {
			l, n, e := content.Add(c.list, s)
			if (e == api.ErrArg) != (c.why != "") {
				t.Errorf("list %d: Add of %.20q returns %d, but: %q", i, s, e, c.why)
			}
			if e != api.OK && (len(l) != 0 || n != 0) {
				t.Errorf("list %d: Add of %.20q returns %d contents and the print %d with an error", i, s, len(l), n)
			}
		}
	}
}

// P4.3: Texts returns the contents of any list in the order of the prints, which may be given more than once.
func TestTexts(t *testing.T) {
	some := []string{"ab", "", "c"}
	for _, c := range []struct {
		list   []string
		prints []int
		want   []string
	}{
		{[]string{"a", "b"}, []int{1, 0, 1}, []string{"b", "a", "b"}},
		{nil, nil, nil}, {nil, []int{}, nil}, {some, nil, nil}, {some, []int{}, nil},
		{some, []int{0, 1, 2}, some}, {some, []int{2, 1, 0}, []string{"c", "", "ab"}}, {some, []int{1}, []string{""}}, {some, []int{2, 2, 2, 2}, []string{"c", "c", "c", "c"}},
		{[]string{"a", "a", "b"}, []int{1, 0, 2}, []string{"a", "a", "b"}},
		{[]string{xs(content.Most), "y"}, []int{1, 0, 0}, []string{"y", xs(content.Most), xs(content.Most)}},
		{some[:1], slices.Repeat([]int{0}, 100000), slices.Repeat([]string{"ab"}, 100000)},
	} {
		if l, e := content.Texts(c.list, c.prints); !slices.Equal(l, c.want) || e != api.OK {
			t.Errorf("Texts(%.60q, %.60v) is %.60q, %d", c.list, c.prints, l, e)
		}
	}
}

// P4.3: one print that is no index, wherever it stands, is ErrNone.
func TestTextsErrNone(t *testing.T) {
	some := []string{"ab", "", "c"}
	for _, bad := range noIndices(len(some)) {
		for _, prints := range [][]int{{bad}, {bad, 0}, {0, bad}, {0, 1, bad, 2}, {bad, bad}} {
			if l, e := content.Texts(some, prints); len(l) != 0 || e != api.ErrNone {
				t.Errorf("Texts of %v is %q, %d", prints, l, e)
			}
		}
	}
	for _, n := range []int{0, 1, -1} {
		if l, e := content.Texts(nil, []int{n}); len(l) != 0 || e != api.ErrNone {
			t.Errorf("Texts of %d in the empty list is %q, %d", n, l, e)
		}
	}
}

// P4.3: the results of Join.
func TestJoin(t *testing.T) {
	long := xs(content.Most)
	for _, c := range []struct {
		a, b   []string
		want   []string
		prints []int
		e      api.Errno
	}{
		{[]string{"a", "b"}, []string{"c", "a"}, []string{"a", "b", "c"}, []int{2, 0}, api.OK},
		{nil, nil, nil, nil, api.OK}, {[]string{}, nil, nil, nil, api.OK}, {nil, []string{}, nil, nil, api.OK},
		{nil, []string{"b", "a"}, []string{"b", "a"}, []int{0, 1}, api.OK}, {[]string{"b", "a"}, nil, []string{"b", "a"}, nil, api.OK},
		{[]string{"a", "b", "c"}, []string{"c", "a", "b"}, []string{"a", "b", "c"}, []int{2, 0, 1}, api.OK},
		{[]string{"a", "b"}, []string{"d", "b", "c", "", "a"}, []string{"a", "b", "d", "c", ""}, []int{2, 1, 3, 4, 0}, api.OK},
		{[]string{""}, []string{"x", ""}, []string{"", "x"}, []int{1, 0}, api.OK}, {[]string{"x"}, []string{""}, []string{"x", ""}, []int{1}, api.OK},
		{[]string{"a", "A"}, []string{"a ", "A", "ab"}, []string{"a", "A", "a ", "ab"}, []int{2, 1, 3}, api.OK},
		{[]string{long}, []string{long}, []string{long}, []int{0}, api.OK}, {[]string{long}, []string{"", long}, []string{long, ""}, []int{1, 0}, api.OK},
		{[]string{""}, []string{long}, []string{"", long}, []int{1}, api.OK}, {nil, []string{long}, []string{long}, []int{0}, api.OK},
		{full(2), []string{"d", "c", "e", "ab"}, append(full(2), "d", "e"), []int{4, 3, 5, 0}, api.OK},
		{[]string{"a", "b"}, full(5), append([]string{"a", "b"}, full(5)...), []int{2, 3, 4, 5}, api.OK},
		{[]string{"a", "b", "c"}, full(2), []string{"a", "b", "c", "ab", full(2)[1], ""}, []int{3, 4, 5, 2}, api.OK},
		{[]string{long}, []string{"b"}, nil, nil, api.ErrFull}, {[]string{"b"}, []string{long}, nil, nil, api.ErrFull}, {[]string{"b"}, []string{"b", xs(content.Most - 1), ""}, []string{"b", xs(content.Most - 1), ""}, []int{0, 1, 2}, api.OK},
		{full(2), []string{"d", "c", "e", "ab", "f"}, nil, nil, api.ErrFull}, {[]string{"a", "b"}, full(1), nil, nil, api.ErrFull}, {[]string{"a", "b", "c"}, full(1), nil, nil, api.ErrFull},
		{full(0), []string{"c", "ab", "", "d"}, nil, nil, api.ErrFull}, {[]string{long}, []string{"y" + xs(content.Most-1)}, nil, nil, api.ErrFull},
	} {
		l, p, e := content.Join(c.a, c.b)
		if !slices.Equal(l, c.want) || !slices.Equal(p, c.prints) || e != c.e {
			t.Errorf("Join(%.60q, %.60q) is %.60q, %v, %d, not %.60q, %v, %d", c.a, c.b, l, p, e, c.want, c.prints, c.e)
		}
	}
}

// P4.3: ErrArg, if either list is not right, comes before ErrFull.
func TestJoinErrArg(t *testing.T) {
	var l []sample
	for _, c := range samples() {
		if len(c.list) < 100 {
			l = append(l, c)
		}
	}
	for i, a := range l {
		for k, b := range l {
			joined, prints, e := content.Join(a.list, b.list)
			if (e == api.ErrArg) != (a.why != "" || b.why != "") {
				t.Errorf("Join of the lists %d and %d returns %d, but: %q, %q", i, k, e, a.why, b.why)
			}
			if e != api.OK && (len(joined) != 0 || len(prints) != 0) {
				t.Errorf("Join of the lists %d and %d returns %d contents and %v with the error %d", i, k, len(joined), prints, e)
			}
		}
	}
}

// P4.2, P4.3: lists with very many contents.
func TestManyContents(t *testing.T) {
	all := twoLetters()
	l, n, e := content.Add(all, "abc")
	if len(l) != len(all)+1 || !slices.Equal(l[:len(all)], all) || l[n] != "abc" || e != api.OK {
		t.Errorf("Add returns %d contents, %d, %d", len(l), n, e)
	}
	back := slices.Clone(all)
	slices.Reverse(back)
	l, p, e := content.Join(append(all[:1000:1000], "abc"), back)
	if len(l) != len(all)+1 || l[1000] != "abc" || e != api.OK {
		t.Fatalf("Join returns %d contents, %d", len(l), e)
	}
	for i, n := range p {
		if l[n] != back[i] {
			t.Fatalf("the print of the content %d is %d, which is %q", i, n, l[n])
		}
	}
	if texts, e := content.Texts(l, p); !slices.Equal(texts, back) || e != api.OK {
		t.Errorf("Texts returns %d contents, %d", len(texts), e)
	}
}

// roomy returns a list with room behind it, which holds other contents.
func roomy(l ...string) []string {
	return append(slices.Clone(l), "behind", "far behind", "last", "end")[: len(l) : len(l)+4]
}

// P4.4 and P3: no call changes a list that it gets, in its elements or behind them.
func TestArgumentsStay(t *testing.T) {
	a, b, prints := roomy("a", "b"), roomy("c", "a", ""), []int{1, 0, 1, 7, 7}
	content.Right(a)
	content.Print(a, "b")
	content.Text(a, 1)
	content.Texts(a, prints[:3:5])
	content.Texts(a, prints)
	content.Add(a, "new")
	content.Add(a, "b")
	content.Join(a, b)
	content.Join(b, a)
	content.Join(a, a)
	content.Join(a[:0], b)
	if !slices.Equal(a[:6], []string{"a", "b", "behind", "far behind", "last", "end"}) || !slices.Equal(b[:7], []string{"c", "a", "", "behind", "far behind", "last", "end"}) || !slices.Equal(prints, []int{1, 0, 1, 7, 7}) {
		t.Errorf("%q %q %v", a[:6], b[:7], prints)
	}
}

// overwrite overwrites a list and all that it has room for.
func overwrite[T any](l []T, with T) {
	for i := range l[:cap(l)] {
		l[:cap(l)][i] = with
	}
}

// P4.4: results share no memory with the arguments, nor with other results.
func TestResultsFresh(t *testing.T) {
	a, b, prints := roomy("a", "b"), roomy("b", "c"), []int{1, 0}
	var results [][]string
	var numbers [][]int
	for range 2 {
		for _, l := range [][]string{a, a[:0], nil} {
			l1, _, _ := content.Add(l, "a")
			l2, _, _ := content.Add(l, "new")
			l3, p3, _ := content.Join(l, b)
			l4, p4, _ := content.Join(b, l)
			l5, p5, _ := content.Join(l, nil)
			l6, p6, _ := content.Join(l, l)
			l7, _ := content.Texts(a, prints[:len(l)])
			results = append(results, l1, l2, l3, l4, l5, l6, l7)
			numbers = append(numbers, p3, p4, p5, p6)
		}
	}
	for i, l := range results {
		was := slices.Clone(l)
		overwrite(l, "changed")
		if !slices.Equal(a[:6], []string{"a", "b", "behind", "far behind", "last", "end"}) || !slices.Equal(b[:6], []string{"b", "c", "behind", "far behind", "last", "end"}) {
			t.Fatalf("the result %d shares memory with an argument: %q %q", i, a[:6], b[:6])
		}
		for k, other := range results {
			if i != k && slices.Contains(other, "changed") {
				t.Fatalf("the results %d and %d share memory", i, k)
			}
		}
		copy(l, was)
	}
	for i, l := range numbers {
		overwrite(l, -7)
		for k, other := range numbers[i+1:] {
			if slices.Contains(other, -7) {
				t.Fatalf("the prints %d and %d share memory", i, i+1+k)
			}
		}
	}
	if !slices.Equal(prints, []int{1, 0}) {
		t.Errorf("the prints became %v", prints)
	}
}

// P4.4: a list that was returned is not changed by later changes of the arguments, or by later calls.
func TestResultsStay(t *testing.T) {
	a, b := []string{"a", "b"}, []string{"b", "c"}
	added, _, _ := content.Add(a, "c")
	same, _, _ := content.Add(a, "b")
	joined, prints, _ := content.Join(a, b)
	texts, _ := content.Texts(a, []int{1, 1})
	one, _, _ := content.Add(added, "one")
	two, _, _ := content.Add(added, "two")
	overwrite(a, "changed")
	overwrite(b, "changed")
	for _, c := range []struct{ is, want []string }{
		{added, []string{"a", "b", "c"}}, {same, []string{"a", "b"}}, {joined, []string{"a", "b", "c"}}, {texts, []string{"b", "b"}},
		{one, []string{"a", "b", "c", "one"}}, {two, []string{"a", "b", "c", "two"}},
	} {
		if !slices.Equal(c.is, c.want) {
			t.Errorf("%q became %q", c.want, c.is)
		}
	}
	if !slices.Equal(prints, []int{1, 2}) {
		t.Errorf("the prints became %v", prints)
	}
}
