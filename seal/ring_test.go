package seal_test

import (
	"math"
	"slices"
	"strings"
	"testing"

	"lading/api"
	"lading/seal"
)

// noKeys are numbers that are no key.
func noKeys() []int {
	return []int{-1, -2, -199, -200, 200, 201, 256, 1 << 31, 1 << 32, 1<<32 + 3, -1 << 32, math.MaxInt, math.MinInt, math.MinInt + 3}
}

// texts are texts that differ in little.
func texts() []string {
	long := strings.Repeat("x", 100000)
	return []string{
		"", "a", "b", "A", " ", "a ", " a", "aa", "ab", "a\n", "\x00", "\x00\x00", "a\x00", "\x00a", "\xff", "\xfe", "\ufffd", "\u00e9", "e\u0301",
		"0", "1", "3:a", "1:a,", long, long + "x", long[1:], long[1:] + "y", "y" + long[1:], long[:50000] + "y" + long[50001:],
	}
}

// manyEntries returns an entry of each of some keys with each of the texts.
func manyEntries() []api.Sealed {
	var l []api.Sealed
	for _, text := range texts() {
		for _, key := range []int{0, 1, 2, 100, 198, 199} {
			l = append(l, api.Sealed{Key: key, Text: text})
		}
	}
	return l
}

// open returns the ring with these entries.
func open(t *testing.T, l ...api.Sealed) *seal.Ring {
	t.Helper()
	r, e := seal.Open(l)
	if e != api.OK || r == nil {
		t.Fatalf("Open of %d entries returns %d", len(l), e)
	}
	return r
}

// has requires that a ring has these entries, and no others.
func has(t *testing.T, r *seal.Ring, want ...api.Sealed) {
	t.Helper()
	if l := r.All(); !slices.Equal(l, want) {
		t.Fatalf("the ring has %d entries %.300v, not %d %.300v", len(l), l, len(want), want)
	}
	for i, e := range want {
		for mark := -1; mark <= len(want); mark++ {
			if s := (api.Signed{Key: e.Key, Text: e.Text, Mark: mark}); r.Valid(s) != (mark == i) {
				t.Fatalf("with %d entries, the entry %d holds with the mark %d, or not", len(want), i, mark)
			}
		}
	}
}

// signs requires that Sign returns the signature with this mark.
func signs(t *testing.T, r *seal.Ring, key int, text string, mark int) {
	t.Helper()
	if s := r.Sign(key, text); s != (api.Signed{Key: key, Text: text, Mark: mark}) {
		t.Fatalf("Sign(%d, %.60q) returns %d, %.60q, %d, not the mark %d", key, text, s.Key, s.Text, s.Mark, mark)
	}
}

// P5.1: a new ring has no entries, and nothing holds for it.
func TestNew(t *testing.T) {
	a, b := seal.New(), seal.New()
	has(t, a)
	for _, mark := range []int{0, -1, 1, math.MaxInt, math.MinInt} {
		for _, key := range append(noKeys(), 0, 3, 199) {
			if a.Valid(api.Signed{Key: key, Mark: mark}) || a.Valid(api.Signed{Key: key, Text: "a", Mark: mark}) {
				t.Errorf("a signature of %d with the mark %d holds for a new ring", key, mark)
			}
		}
	}
	signs(t, a, 3, "a", 0)
	has(t, b)
	has(t, seal.New())
	signs(t, b, 4, "b", 0)
	has(t, a, api.Sealed{Key: 3, Text: "a"})
}

// P5.1: Open takes any entries of keys, no two of which are equal, in their order.
func TestOpen(t *testing.T) {
	many := manyEntries()
	back := slices.Clone(many)
	slices.Reverse(back)
	for _, l := range [][]api.Sealed{
		nil, {}, {{}}, {{Key: 199}}, {{Key: 0, Text: "a"}}, {{Key: 199, Text: strings.Repeat("x", 100000)}},
		{{Key: 1}, {Key: 2}}, {{Key: 2}, {Key: 1}}, {{Key: 1, Text: "a"}, {Key: 1, Text: "b"}}, {{Key: 1, Text: "b"}, {Key: 1, Text: "a"}},
		{{Key: 1, Text: "a"}, {Key: 2, Text: "a"}, {Key: 1}, {Key: 2}}, {{Key: 1, Text: "1"}, {Key: 11}, {Key: 1, Text: "11"}, {Key: 111}},
		{{Key: 1, Text: "a"}, {Key: 1, Text: "A"}, {Key: 1, Text: "a\x00"}, {Key: 1, Text: "a "}},
		many, back,
	} {
		r := open(t, l...)
		has(t, r, l...)
		for i, e := range l {
			signs(t, r, e.Key, e.Text, i)
		}
		signs(t, r, 7, "new", len(l))
		has(t, r, append(slices.Clone(l), api.Sealed{Key: 7, Text: "new"})...)
	}
}

// fails requires that Open returns an error.
func fails(t *testing.T, want api.Errno, l ...api.Sealed) {
	t.Helper()
	if r, e := seal.Open(l); r != nil || e != want {
		t.Errorf("Open of %.300v returns a ring: %v, %d, not %d", l, r != nil, e, want)
	}
}

// P5.1: two equal entries, wherever they stand, are ErrTwice.
func TestOpenErrTwice(t *testing.T) {
	many := manyEntries()
	for _, l := range [][]api.Sealed{
		{{}, {}}, {{Key: 1}, {Key: 1}}, {{Text: "a"}, {Text: "a"}}, {{Key: 199, Text: "a"}, {Key: 199, Text: "a"}}, {{Key: 1}, {Key: 1}, {Key: 1}},
		{{Key: 1}, {Key: 2}, {Key: 1}}, {{Key: 1}, {Key: 2}, {Key: 2}}, {{Key: 1}, {Key: 1}, {Key: 2}}, {{Key: 1}, {Key: 2}, {Key: 1}, {Key: 2}},
		{{Key: 1, Text: "\u00e9"}, {Key: 1, Text: "\xc3\xa9"}}, {{Key: 1, Text: strings.Repeat("x", 9999)}, {Key: 2}, {Key: 1, Text: strings.Repeat("xxx", 3333)}},
		append(many[:len(many):len(many)], many...),
	} {
		fails(t, api.ErrTwice, l...)
	}
	for i, e := range many[:60] {
		for _, k := range []int{0, i, i + 1, len(many)} {
			fails(t, api.ErrTwice, slices.Insert(slices.Clone(many), k, e)...)
		}
	}
}

// P5.1: a number that is no key, wherever it stands, is ErrArg, also if two entries are equal.
func TestOpenErrArg(t *testing.T) {
	for _, n := range noKeys() {
		for _, text := range []string{"", "a"} {
			bad := api.Sealed{Key: n, Text: text}
			for _, l := range [][]api.Sealed{
				nil, {{}}, {{Key: 1}, {Key: 2}, {Key: 3}}, {{Key: 199, Text: "a"}}, {{Key: 1}, {Key: 1}}, {{Key: 1}, {Key: 1}, {Key: 1}}, {{Key: 1, Text: "a"}, {Key: 2}, {Key: 1, Text: "a"}}, {bad}, {bad, {Key: 1}, bad},
			} {
				for i := range len(l) + 1 {
					fails(t, api.ErrArg, slices.Insert(slices.Clone(l), i, bad)...)
				}
			}
		}
	}
}

// P5.1: each number is a key, or not.
func TestKeys(t *testing.T) {
	r := seal.New()
	var l []api.Sealed
	for key := -300; key <= 500; key++ {
		e := api.Sealed{Key: key, Text: "a"}
		if key < 0 || key > 199 {
			fails(t, api.ErrArg, e)
			if s := r.Sign(key, "a"); s != (api.Signed{}) {
				t.Errorf("Sign(%d) returns %v", key, s)
			}
			continue
		}
		has(t, open(t, e), e)
		signs(t, r, key, "a", key)
		l = append(l, e)
	}
	has(t, r, l...)
}

// P5.2: Sign gives a mark to each key and text, and the same one again.
func TestSign(t *testing.T) {
	r := seal.New()
	want := manyEntries()
	for i, e := range want {
		signs(t, r, e.Key, e.Text, i)
		signs(t, r, e.Key, e.Text, i)
	}
	has(t, r, want...)
	for i := range want {
		k := (i*7 + 3) % len(want)
		signs(t, r, want[k].Key, want[k].Text, k)
	}
	has(t, r, want...)
	signs(t, r, 3, "last", len(want))
}

// P5.2: Sign returns a zero signature, and changes nothing, if there is no such key.
func TestSignNoKey(t *testing.T) {
	want := []api.Sealed{{Key: 3, Text: "a"}, {Key: 0}, {Key: 199, Text: "b"}}
	for _, l := range [][]api.Sealed{nil, want} {
		r := open(t, l...)
		for range 2 {
			for _, n := range noKeys() {
				for _, text := range []string{"a", "", "b", "new"} {
					if s := r.Sign(n, text); s != (api.Signed{}) {
						t.Errorf("Sign(%d, %q) returns %v", n, text, s)
					}
				}
			}
			has(t, r, l...)
		}
		signs(t, r, 5, "new", len(l))
	}
}

// P5.2: a signature holds only with the key, the text and the mark of one entry.
func TestValid(t *testing.T) {
	l := []api.Sealed{{Key: 3, Text: "a"}, {Key: 4, Text: "a"}, {Key: 3}, {Key: 0}, {Key: 199, Text: "b"}, {Key: 3, Text: "\xff"}}
	r := open(t, l...)
	keys := append(noKeys(), 0, 1, 2, 3, 4, 5, 198, 199)
	marks := []int{-1, -2, -6, 0, 1, 2, 3, 4, 5, 6, 7, 12, 1 << 32, 1<<32 + 1, -1 << 32, math.MaxInt, math.MinInt, math.MinInt + 1}
	for _, key := range keys {
		for _, text := range texts() {
			for _, mark := range marks {
				want := mark >= 0 && mark < len(l) && l[mark].Key == key && l[mark].Text == text
				if got := r.Valid(api.Signed{Key: key, Text: text, Mark: mark}); got != want {
					t.Errorf("Valid of %d, %.20q, %d is %v", key, text, mark, got)
				}
			}
		}
	}
	has(t, r, l...)
}

// P5.2: long texts are compared to their ends.
func TestValidLongTexts(t *testing.T) {
	r := seal.New()
	for i, text := range texts() {
		signs(t, r, 9, text, i)
	}
	for i, text := range texts() {
		for mark := range texts() {
			if r.Valid(api.Signed{Key: 9, Text: text, Mark: mark}) != (mark == i) {
				t.Errorf("the text %d holds with the mark %d, or not", i, mark)
			}
		}
	}
}

// P5.3: All returns the entries in the order in which they came.
func TestAll(t *testing.T) {
	r := seal.New()
	var want []api.Sealed
	for i := range 300 {
		key, text := (i*77)%200, string(rune('z'-i%7))
		if e := (api.Sealed{Key: key, Text: text}); !slices.Contains(want, e) {
			want = append(want, e)
		}
		r.Sign(key, text)
		if l := r.All(); !slices.Equal(l, want) {
			t.Fatalf("after %d calls: %v, not %v", i+1, l, want)
		}
	}
	again := open(t, r.All()...)
	has(t, again, want...)
	signs(t, again, 7, "new", len(want))
}

// P5.3: Copy returns a ring with the same entries; neither ring is changed by what is signed in the other one.
func TestCopy(t *testing.T) {
	var l []api.Sealed
	for n := range 20 { // so that some of the lists have room behind them
		for _, r := range []*seal.Ring{signed(l), open(t, l...), signed(l).Copy(), open(t, l...).Copy()} {
			c := r.Copy()
			has(t, c, l...)
			for i, e := range l {
				signs(t, c, e.Key, e.Text, i)
			}
			d := c.Copy()
			signs(t, c, 1, "c", n)
			signs(t, r, 2, "r", n)
			signs(t, d, 3, "d", n)
			signs(t, c, 2, "r", n+1)
			has(t, r, with(l, api.Sealed{Key: 2, Text: "r"})...)
			has(t, c, with(l, api.Sealed{Key: 1, Text: "c"}, api.Sealed{Key: 2, Text: "r"})...)
			has(t, d, with(l, api.Sealed{Key: 3, Text: "d"})...)
			signs(t, d, 1, "c", n+1)
			signs(t, r, 1, "c", n+1)
			if c.Valid(api.Signed{Key: 2, Text: "r", Mark: n}) || d.Valid(api.Signed{Key: 2, Text: "r", Mark: n}) || r.Valid(api.Signed{Key: 1, Text: "c", Mark: n}) {
				t.Fatalf("with %d entries, a signature of another ring holds", n)
			}
		}
		l = append(l, api.Sealed{Key: n, Text: "a"})
	}
}

// signed returns a new ring in which these entries were signed.
func signed(l []api.Sealed) *seal.Ring {
	r := seal.New()
	for _, e := range l {
		r.Sign(e.Key, e.Text)
	}
	return r
}

// with returns a new list with more entries.
func with(l []api.Sealed, more ...api.Sealed) []api.Sealed { return slices.Concat(l, more) }

// overwrite overwrites a list and all that it has room for.
func overwrite(l []api.Sealed) {
	for i := range l[:cap(l)] {
		l[:cap(l)][i] = api.Sealed{Key: 150, Text: "changed"}
	}
}

// P5.4 and P3: Open reads and writes nothing behind its list, and changes nothing in it; neither do later calls.
func TestArgumentStays(t *testing.T) {
	full := []api.Sealed{{Key: 1, Text: "a"}, {Key: 2, Text: "b"}, {Key: 1, Text: "a"}, {Key: -1, Text: "c"}}
	was := slices.Clone(full)
	for n := range len(full) {
		r, e := seal.Open(full[:n])
		want := api.OK
		if n > 2 {
			want = api.ErrTwice
		}
		if e != want || (r == nil) != (want != api.OK) {
			t.Fatalf("Open of %d of the entries returns %d", n, e)
		}
		if r != nil {
			r.Sign(9, "new")
			r.Copy().Sign(9, "newer")
			has(t, r, with(full[:n], api.Sealed{Key: 9, Text: "new"})...)
		}
		if !slices.Equal(full, was) {
			t.Fatalf("Open of %d of the entries, or Sign, makes them %v", n, full)
		}
	}
	if r, e := seal.Open(full); r != nil || e != api.ErrArg || !slices.Equal(full, was) {
		t.Errorf("Open returns %d, and the entries are %v", e, full)
	}
}

// P5.4: a ring shares no memory with the list that it was opened with.
func TestOpenKeepsNothing(t *testing.T) {
	want := []api.Sealed{{Key: 1, Text: "a"}, {Key: 2, Text: "b"}}
	l := append(make([]api.Sealed, 0, 9), want...)
	r := open(t, l...)
	other := open(t, l...)
	signs(t, r, 3, "c", 2)
	signs(t, other, 4, "d", 2)
	overwrite(l)
	has(t, r, with(want, api.Sealed{Key: 3, Text: "c"})...)
	has(t, other, with(want, api.Sealed{Key: 4, Text: "d"})...)
	signs(t, r, 1, "a", 0)
	signs(t, r, 150, "changed", 3)
}

// P5.4: no list that All returns shares memory with a ring or with another result.
func TestAllFresh(t *testing.T) {
	var want []api.Sealed
	r := seal.New()
	for n := range 20 {
		c := r.Copy()
		kept := r.All()
		for _, x := range []*seal.Ring{r, c} {
			l := x.All()
			overwrite(l)
			overwrite(append(l, l...))
		}
		has(t, r, want...)
		has(t, c, want...)
		signs(t, r, n, "a", n)
		if !slices.Equal(kept, want) {
			t.Fatalf("what All returned became %v", kept)
		}
		overwrite(kept)
		want = append(want, api.Sealed{Key: n, Text: "a"})
		has(t, r, want...)
	}
}

// P5.5: of a ring that was new, exactly those signatures hold that Sign has returned for a key.
func TestNobodyForges(t *testing.T) {
	r := seal.New()
	returned := map[api.Signed]bool{}
	l := texts()[:10]
	for i := range 120 {
		key, text := i*7%13-2, l[(i*4+i/20)%9]
		if s := r.Sign(key, text); key >= 0 {
			returned[s] = true
		}
		for key := -3; key < 12; key++ {
			for _, text := range l {
				for mark := -2; mark < 101; mark++ {
					s := api.Signed{Key: key, Text: text, Mark: mark}
					if r.Valid(s) != returned[s] {
						t.Fatalf("after %d calls, Valid of %v is %v, but it was returned: %v", i+1, s, r.Valid(s), returned[s])
					}
				}
			}
		}
	}
	if len(returned) < 50 || len(returned) > 99 || len(returned) != len(r.All()) {
		t.Errorf("%d signatures were returned, and %d are in the ring", len(returned), len(r.All()))
	}
}

// P5.5: a part of a signature does not make another one that holds.
func TestPartsOfSignatures(t *testing.T) {
	r := seal.New()
	var l []api.Signed
	for i, text := range texts() {
		l = append(l, r.Sign(i%5, text))
	}
	for _, a := range l {
		for _, b := range l {
			for _, s := range []api.Signed{{Key: a.Key, Text: b.Text, Mark: a.Mark}, {Key: a.Key, Text: a.Text, Mark: b.Mark}, {Key: b.Key, Text: a.Text, Mark: a.Mark}} {
				if r.Valid(s) != slices.Contains(l, s) {
					t.Errorf("Valid of %d, %.20q, %d is %v", s.Key, s.Text, s.Mark, r.Valid(s))
				}
			}
		}
	}
}

// P5.6: marks are given without a gap, what was signed is signed again with the same mark, and it holds for ever.
func TestMarks(t *testing.T) {
	r, few := seal.New(), texts()[:22]
	at := map[api.Sealed]int{}
	var returned []api.Signed
	for i := range 3000 {
		e := api.Sealed{Key: (i * 31) % 200, Text: few[(i*i+i/7)%22]}
		mark, there := at[e]
		if !there {
			mark = len(at)
			at[e] = mark
		}
		signs(t, r, e.Key, e.Text, mark)
		if returned = append(returned, api.Signed{Key: e.Key, Text: e.Text, Mark: mark}); i%100 == 0 {
			r.Sign(-1, e.Text)
			for _, s := range returned {
				if !r.Valid(s) {
					t.Fatalf("after %d calls, %v does not hold any more", i+1, s)
				}
			}
		}
	}
	if len(at) < 1000 || len(r.All()) != len(at) {
		t.Errorf("%d signatures were made, and the ring has %d", len(at), len(r.All()))
	}
}

// P1: many entries, and many long texts, are signed and opened in time.
func TestLarge(t *testing.T) {
	r := seal.New()
	for i := range 400000 {
		signs(t, r, i%200, strings.Repeat("a", i/200%20)+strings.Repeat("b", i/4000), i)
	}
	l := r.All()
	again := open(t, l...)
	c := again.Copy()
	for i, e := range l {
		s := api.Signed{Key: e.Key, Text: e.Text, Mark: i}
		if !again.Valid(s) || !c.Valid(s) || again.Valid(api.Signed{Key: e.Key, Text: e.Text, Mark: i + 1}) {
			t.Fatalf("the entry %d holds, or not", i)
		}
	}
	signs(t, c, 3, "new", len(l))
	fails(t, api.ErrTwice, append(l, l[0])...)
	huge := strings.Repeat("x", 1<<24)
	signs(t, c, 3, huge, len(l)+1)
	signs(t, c, 3, huge[1:], len(l)+2)
	signs(t, c, 3, huge, len(l)+1)
}

// The examples of the chapter.
func TestExamples(t *testing.T) {
	r := seal.New()
	signs(t, r, 3, "a", 0)
	signs(t, r, 4, "a", 1)
	signs(t, r, 3, "a", 0)
	for _, c := range []struct {
		s    api.Signed
		want bool
	}{
		{api.Signed{Key: 3, Text: "a", Mark: 0}, true}, {api.Signed{Key: 3, Text: "a", Mark: 1}, false}, {api.Signed{Key: 3, Text: "b", Mark: 0}, false},
	} {
		if r.Valid(c.s) != c.want {
			t.Errorf("Valid of %v is not %v", c.s, c.want)
		}
	}
	if s := r.Sign(200, "a"); s != (api.Signed{}) {
		t.Errorf("Sign of the key 200 returns %v", s)
	}
	has(t, r, api.Sealed{Key: 3, Text: "a"}, api.Sealed{Key: 4, Text: "a"})
}
