package view_test

import (
	"fmt"
	"math"
	"slices"
	"strconv"
	"strings"
	"testing"

	"lading/api"
	"lading/seal"
	"lading/view"
)

// entry, size, absent, built and ran return the texts of claims.
func entry(n int, text string) string { return fmt.Sprintf("0;%d;0;%d:%s,", n, len(text), text) }
func size(n, time int) string         { return fmt.Sprintf("1;%d;%d;0:,", n, time) }
func absent(n int, key string) string { return fmt.Sprintf("2;%d;0;%d:%s,", n, len(key), key) }
func built(n int, text string) string { return fmt.Sprintf("3;%d;0;%d:%s,", n, len(text), text) }
func ran(n, time int, text string) string {
	return fmt.Sprintf("4;%d;%d;%d:%s,", n, time, len(text), text)
}

// newView returns a ring in which the key 3 has signed these texts, with the marks from 0 on, and a view of this key that has accepted them.
func newView(t *testing.T, texts ...string) (*seal.Ring, *view.View) {
	t.Helper()
	r := seal.New()
	v := view.New(r, 3)
	if v == nil {
		t.Fatal("New returns nil")
	}
	for _, text := range texts {
		accepts(t, v, r.Sign(3, text), api.OK)
	}
	return r, v
}

// says writes down all that a view says of the first entries, of these keys, and of the moments at its size.
func says(v *view.View, keys ...string) string {
	var b strings.Builder
	n, time := v.Size()
	fmt.Fprintf(&b, "key %d, size %d at %d;", v.Key(), n, time)
	for _, now := range []int{math.MinInt, -1, 0, time - 1, time, time + 1, math.MaxInt} {
		fmt.Fprintf(&b, " age %d", v.Age(now))
	}
	for i := -2; i < 10; i++ {
		text, ok := v.Text(i)
		fmt.Fprintf(&b, "; %d: %.60q %v %v", i, text, ok, v.Known(i))
	}
	for _, key := range append(keys, "a", "b", "", "c") {
		n, ok := v.Absent(key)
		fmt.Fprintf(&b, "; %.60q: %d %v", key, n, ok)
	}
	return b.String()
}

// accepts requires that Accept returns this, and changes nothing with an error; otherwise the claim is the last one, or was there already.
func accepts(t *testing.T, v *view.View, s api.Signed, want api.Errno) {
	t.Helper()
	before, l := says(v), v.Claims()
	e := v.Accept(s)
	if e != want {
		t.Fatalf("Accept of %.60q of %d with the mark %d returns %d, not %d", s.Text, s.Key, s.Mark, e, want)
	}
	if e == api.OK && !slices.Contains(l, s) {
		l = append(l, s)
		before = says(v)
	}
	if after := says(v); after != before || !slices.Equal(v.Claims(), l) {
		t.Fatalf("Accept of %.60q returns %d, and then the view says\n%s\nwith %v, not\n%s\nwith %v", s.Text, e, after, v.Claims(), before, l)
	}
}

// is requires the size of a view, and how old it is.
func is(t *testing.T, v *view.View, n, time int) {
	t.Helper()
	if gotN, gotTime := v.Size(); gotN != n || gotTime != time {
		t.Fatalf("Size returns %d, %d, not %d, %d", gotN, gotTime, n, time)
	}
	for _, now := range []int{time - 1, -1, math.MinInt} {
		if got := v.Age(now); got != -1 {
			t.Fatalf("Age(%d) of a size at %d returns %d", now, time, got)
		}
	}
	for _, age := range []int{0, 1, 7, 1 << 30, 1 << 40, math.MaxInt - max(0, time)} {
		want := age
		if time < 0 {
			want = -1
		}
		if got := v.Age(max(0, time) + age); got != want {
			t.Fatalf("Age(%d) of a size at %d returns %d, not %d", max(0, time)+age, time, got, want)
		}
	}
}

// knows requires what Text returns.
func knows(t *testing.T, v *view.View, i int, text string, ok bool) {
	t.Helper()
	if s, there := v.Text(i); s != text || there != ok {
		t.Errorf("Text(%d) returns %.60q, %v, not %.60q, %v", i, s, there, text, ok)
	}
}

// lacks requires what Absent returns.
func lacks(t *testing.T, v *view.View, key string, n int, ok bool) {
	t.Helper()
	if m, there := v.Absent(key); m != n || there != ok {
		t.Errorf("Absent(%.60q) returns %d, %v, not %d, %v", key, m, there, n, ok)
	}
}

// clashes requires what Clash returns for a text, whatever its key and its mark are.
func clashes(t *testing.T, v *view.View, text string, want api.Signed, ok bool) {
	t.Helper()
	for _, s := range []api.Signed{{Key: 3, Text: text}, {Key: 4, Text: text, Mark: 1}, {Key: -1, Text: text, Mark: -1}, {Key: math.MaxInt, Text: text, Mark: math.MinInt}} {
		before := says(v)
		if got, there := v.Clash(s); got != want || there != ok {
			t.Errorf("Clash of %.60q returns %v, %v, not %v, %v", text, got, there, want, ok)
		}
		if after := says(v); after != before {
			t.Errorf("Clash of %.60q changes what the view says", text)
		}
	}
}

// isEmpty requires that a view of a key says nothing.
func isEmpty(t *testing.T, v *view.View, key int) {
	t.Helper()
	is(t, v, 0, -1)
	if v.Key() != key || len(v.Claims()) != 0 || v.Bytes() != strconv.Itoa(key)+";0;" {
		t.Errorf("a new view has the key %d, not %d, the claims %v, the bytes %q", v.Key(), key, v.Claims(), v.Bytes())
	}
	for _, i := range []int{-1, 0, 1, math.MaxInt, math.MinInt} {
		knows(t, v, i, "", false)
		if v.Known(i) != (i <= 0) {
			t.Errorf("Known(%d) returns %v", i, v.Known(i))
		}
	}
	for _, key := range []string{"", "a"} {
		lacks(t, v, key, 0, false)
	}
	for _, text := range []string{entry(0, "0:,"), entry(0, "1:a,"), size(0, 0), size(5, 5), absent(0, ""), absent(5, "a"), "", "x"} {
		clashes(t, v, text, api.Signed{}, false)
	}
}

// P8.1: a new view of each key has accepted nothing, and accepts what its key has signed.
func TestNew(t *testing.T) {
	for key := range 200 {
		r := seal.New()
		r.Sign(key, size(4, 4))
		v := view.New(r, key)
		if v == nil {
			t.Fatalf("New with the key %d returns nil", key)
		}
		isEmpty(t, v, key)
		accepts(t, v, r.Sign(key, size(4, 4)), api.OK)
		accepts(t, v, r.Sign((key+1)%200, size(4, 4)), api.ErrKey)
		is(t, v, 4, 4)
	}
}

// P8.1: without a ring, or with a number that is no key, there is no view.
func TestNewNil(t *testing.T) {
	for _, key := range []int{-1, -2, -200, 200, 201, 256, 1 << 31, 1 << 32, 1<<32 + 3, math.MaxInt, math.MinInt, math.MinInt + 3} {
		if view.New(seal.New(), key) != nil || view.New(nil, key) != nil {
			t.Errorf("New with the key %d returns a view", key)
		}
	}
	for _, key := range []int{0, 3, 199} {
		if view.New(nil, key) != nil {
			t.Errorf("New without a ring, with the key %d, returns a view", key)
		}
	}
}

// P8.1: the view keeps the ring itself, and does not sign.
func TestRing(t *testing.T) {
	r, v := newView(t)
	s := api.Signed{Key: 3, Text: size(1, 1), Mark: 1}
	accepts(t, v, s, api.ErrSeal)
	r.Sign(4, "x")
	accepts(t, v, s, api.ErrSeal)
	if r.Sign(3, size(1, 1)) != s {
		t.Fatal("the mark is another one")
	}
	accepts(t, v, s, api.OK)
	v.Clash(api.Signed{Key: 3, Text: size(2, 1)})
	v.Copy()
	v.Bytes()
	if l := r.All(); !slices.Equal(l, []api.Sealed{{Key: 4, Text: "x"}, {Key: 3, Text: size(1, 1)}}) {
		t.Errorf("the ring has %v", l)
	}
}

// P8.2: what does not hold is ErrSeal, whatever else it is.
func TestErrSeal(t *testing.T) {
	r, v := newView(t, entry(0, "1:a,"), size(1, 1))
	r.Sign(4, size(1, 2))
	r.Sign(3, "x")
	for _, s := range []api.Signed{
		{}, {Key: 3}, {Key: 3, Text: entry(0, "1:a,"), Mark: 1}, {Key: 3, Text: entry(0, "1:a,"), Mark: -1}, {Key: 3, Text: entry(0, "1:a,"), Mark: 4}, {Key: 3, Text: entry(0, "1:a,"), Mark: math.MaxInt}, {Key: 3, Text: entry(0, "1:a,"), Mark: math.MinInt},
		{Key: 4, Text: entry(0, "1:a,")}, {Key: -1, Text: entry(0, "1:a,")}, {Key: 200, Text: entry(0, "1:a,")}, {Key: 3, Text: entry(0, "1:a,x")}, {Key: 3, Text: entry(0, "1:b,")}, {Key: 3, Text: size(1, 1)},
		{Key: 3, Text: size(1, 2), Mark: 2}, {Key: 5, Text: size(1, 2), Mark: 2}, {Key: 4, Text: size(2, 2), Mark: 2}, {Key: 3, Text: size(0, 1), Mark: 1}, {Key: 3, Text: "y", Mark: 3}, {Key: 4, Text: "x", Mark: 3}, {Key: 3, Text: "x", Mark: 2}, {Key: 3, Text: "", Mark: 3},
	} {
		accepts(t, v, s, api.ErrSeal)
	}
}

// others are texts that are not claims of a log.
func others() []string {
	x := strings.Repeat("x", 20001)
	return []string{
		"", "x", "0;", "0;0;0;", "0;0;0;0:,", "0;0;0;1:a,", "0;-1;0;4:1:a,,", "0;200000;0;4:1:a,,", "0;0;1;4:1:a,,", "0;00;0;4:1:a,,", " 0;0;0;4:1:a,,", "0;0;0;4:1:a,, ", "0;0;0;4:1:a,,0;0;0;4:1:a,,", "0;0;0;5:1:a,,", "0;0;0;3:1:a,",
		"0;0;0;20001:0:," + x[:19998] + ",", "1;0;0;", "1;0;0;1:a,", "1;200001;0;0:,", "1;0;1073741825;0:,", "1;-1;0;0:,", "1;0;-1;0:,", "2;0;0;", "2;200001;0;1:a,", "2;0;1;1:a,", "2;-1;0;1:a,", "2;0;0;20001:" + x + ",",
		built(0, ""), built(0, "a"), built(5, "1:a,"), built(1<<30, "b"), ran(0, 0, ""), ran(1, 1, "a"), ran(0, 0, "1:a,"), ran(1<<30, 1<<30, "b"), "5;0;0;1:a,", "5;0;0;0:,", "-1;0;0;0:,", "-0;0;0;4:1:a,,", "10;0;0;0:,",
	}
}

// P8.2: another key is ErrKey, whether its text is a claim, and contradicts one, or not.
func TestErrKey(t *testing.T) {
	r, v := newView(t, entry(0, "1:a,"), size(1, 5), absent(1, "b"))
	for _, key := range []int{0, 2, 4, 199} {
		for _, text := range append(others(), entry(0, "1:a,"), entry(0, "1:b,"), entry(1, "1:b,"), size(1, 5), size(2, 5), size(2, 6), absent(1, "b"), absent(1, "a"), absent(1, "c")) {
			accepts(t, v, r.Sign(key, text), api.ErrKey)
		}
	}
}

// P8.2: what is no claim of a log is ErrForm; it has no clash either.
func TestErrForm(t *testing.T) {
	r, v := newView(t, entry(0, "1:a,"), size(1, 5), absent(1, "b"))
	for _, text := range others() {
		accepts(t, v, r.Sign(3, text), api.ErrForm)
		clashes(t, v, text, api.Signed{}, false)
	}
}

// P8.2: all claims of a log are accepted, up to the greatest numbers and texts.
func TestAcceptLimits(t *testing.T) {
	x := strings.Repeat("x", 20000)
	l := []string{
		entry(0, "0:,"), entry(199999, "1:a,"), entry(1, "0:,"+x[:19997]), entry(2, "19993:"+x[:19993]+","), entry(3, "2:\xff\x00,\x00"), entry(4, "4:1:a,,"),
		size(0, 0), size(200000, 1<<30), size(0, 1), size(200000, 1<<30-1), absent(200000, "b"), absent(0, ""), absent(0, x), absent(200000, x[:19999]), absent(199999, "a"), absent(2, x[:19993]),
	}
	_, v := newView(t, l...)
	if n := len(v.Claims()); n != len(l) {
		t.Fatalf("%d claims are accepted, not %d", n, len(l))
	}
	is(t, v, 200000, 1<<30)
	knows(t, v, 199999, "1:a,", true)
	knows(t, v, 199998, "", false)
	knows(t, v, 200000, "", false)
	knows(t, v, 1, "0:,"+x[:19997], true)
	knows(t, v, 2, "19993:"+x[:19993]+",", true)
	knows(t, v, 3, "2:\xff\x00,\x00", true)
	lacks(t, v, x, 0, true)
	lacks(t, v, x[:19999], 200000, true)
	lacks(t, v, x[:19998], 0, false)
	lacks(t, v, "a", 199999, true)
	lacks(t, v, "b", 200000, true)
	lacks(t, v, "", 0, true)
}

// contradictions has accepted claims, a claim, and the place of the first of them that it contradicts.
var contradictions = []struct {
	accepted []string
	text     string
	first    int // -1: none
}{
	// An entry, and another text of it.
	{[]string{entry(0, "1:a,")}, entry(0, "1:a,x"), 0},
	{[]string{entry(0, "1:a,x")}, entry(0, "1:a,"), 0},
	{[]string{entry(0, "1:a,")}, entry(0, "1:b,"), 0},
	{[]string{entry(0, "0:,")}, entry(0, "0:,0:,"), 0},
	{[]string{entry(0, "1:a,")}, entry(1, "1:b,"), -1},
	{[]string{entry(1, "1:a,")}, entry(0, "1:a,"), -1},
	{[]string{entry(0, "1:a,"), entry(1, "1:b,"), entry(2, "1:c,")}, entry(1, "1:a,"), 1},
	{[]string{entry(199999, "1:a,")}, entry(199999, "1:b,"), 0},
	// An entry, and its key absent.
	{[]string{absent(1, "a")}, entry(0, "1:a,"), 0},
	{[]string{absent(1, "a")}, entry(1, "1:a,"), -1},
	{[]string{absent(0, "a")}, entry(0, "1:a,"), -1},
	{[]string{absent(1, "")}, entry(0, "0:,x"), 0},
	{[]string{absent(0, "")}, entry(0, "0:,x"), -1},
	{[]string{absent(1, "a")}, entry(0, "1:b,"), -1},
	{[]string{absent(1, "a")}, entry(0, "2:ab,"), -1},
	{[]string{absent(1, "1:a,")}, entry(0, "1:a,"), -1},
	{[]string{absent(1, "1:a,")}, entry(0, "4:1:a,,"), 0},
	{[]string{absent(1, "1:a,x")}, entry(0, "1:a,x"), -1},
	{[]string{absent(200000, "a")}, entry(199999, "1:a,"), 0},
	{[]string{absent(199999, "a")}, entry(199999, "1:a,"), -1},
	{[]string{absent(5, "a"), absent(3, "a")}, entry(4, "1:a,"), 0},
	{[]string{absent(3, "a"), absent(5, "a")}, entry(4, "1:a,"), 1},
	{[]string{absent(3, "a"), absent(5, "a")}, entry(2, "1:a,"), 0},
	{[]string{absent(5, "a"), absent(3, "a")}, entry(5, "1:a,"), -1},
	{[]string{absent(5, "b"), absent(3, "a")}, entry(4, "1:a,"), -1},
	// A key absent, and an entry that has it.
	{[]string{entry(0, "1:a,")}, absent(1, "a"), 0},
	{[]string{entry(0, "1:a,")}, absent(0, "a"), -1},
	{[]string{entry(0, "0:,")}, absent(1, ""), 0},
	{[]string{entry(0, "1:a,")}, absent(200000, "b"), -1},
	{[]string{entry(3, "1:a,")}, absent(3, "a"), -1},
	{[]string{entry(3, "1:a,")}, absent(4, "a"), 0},
	{[]string{entry(3, "1:a,"), entry(1, "1:a,")}, absent(2, "a"), 1},
	{[]string{entry(3, "1:a,"), entry(1, "1:a,")}, absent(4, "a"), 0},
	{[]string{entry(3, "1:a,"), entry(1, "1:a,")}, absent(1, "a"), -1},
	{[]string{entry(1, "1:a,"), entry(3, "1:a,")}, absent(2, "a"), 0},
	{[]string{entry(1, "1:a,"), entry(3, "1:a,")}, absent(1, "a"), -1},
	{[]string{entry(1, "1:a,"), entry(3, "1:a,"), entry(0, "1:b,")}, absent(1, "b"), 2},
	{[]string{absent(1, "a")}, absent(2, "a"), -1},
	{[]string{absent(2, "a")}, absent(1, "a"), -1},
	// Sizes.
	{[]string{size(3, 5)}, size(3, 5), -1},
	{[]string{size(3, 5)}, size(2, 5), 0},
	{[]string{size(3, 5)}, size(4, 5), 0},
	{[]string{size(3, 5)}, size(2, 6), 0},
	{[]string{size(3, 5)}, size(3, 6), -1},
	{[]string{size(3, 5)}, size(4, 6), -1},
	{[]string{size(3, 5)}, size(4, 4), 0},
	{[]string{size(3, 5)}, size(3, 4), -1},
	{[]string{size(3, 5)}, size(2, 4), -1},
	{[]string{size(0, 0)}, size(1, 0), 0},
	{[]string{size(0, 0)}, size(200000, 1<<30), -1},
	{[]string{size(1, 0)}, size(0, 1<<30), 0},
	{[]string{size(3, 5), size(5, 7)}, size(4, 6), -1},
	{[]string{size(3, 5), size(5, 7)}, size(3, 6), -1},
	{[]string{size(3, 5), size(5, 7)}, size(5, 6), -1},
	{[]string{size(3, 5), size(5, 7)}, size(2, 6), 0},
	{[]string{size(3, 5), size(5, 7)}, size(6, 6), 1},
	{[]string{size(5, 7), size(3, 5)}, size(2, 6), 1},
	{[]string{size(5, 7), size(3, 5)}, size(6, 6), 0},
	{[]string{size(5, 7), size(3, 5)}, size(6, 4), 0},
	{[]string{size(5, 7), size(3, 5)}, size(4, 4), 1},
	{[]string{size(5, 7), size(3, 5)}, size(4, 8), 0},
	{[]string{size(5, 7), size(3, 5)}, size(2, 8), 0},
	{[]string{size(3, 5), size(5, 7)}, size(2, 8), 0},
	{[]string{size(3, 5), size(5, 7), size(4, 6)}, size(5, 6), 2},
	{[]string{size(1, 1), size(9, 9), size(5, 5), size(3, 3), size(7, 7)}, size(2, 8), 2},
	{[]string{size(1, 1), size(9, 9), size(5, 5), size(3, 3), size(7, 7)}, size(8, 2), 2},
	{[]string{size(1, 1), size(9, 9), size(5, 5), size(3, 3), size(7, 7)}, size(6, 4), 2},
	{[]string{size(1, 1), size(9, 9), size(5, 5), size(3, 3), size(7, 7)}, size(6, 6), -1},
	{[]string{size(1, 1), size(9, 9), size(5, 5), size(3, 3), size(7, 7)}, size(9, 8), -1},
	{[]string{size(1, 1), size(9, 9), size(5, 5), size(3, 3), size(7, 7)}, size(0, 0), -1},
	{[]string{size(1, 1), size(9, 9), size(5, 5), size(3, 3), size(7, 7)}, size(2, 0), 0},
	{[]string{size(1, 1), size(9, 9), size(5, 5), size(3, 3), size(7, 7)}, size(8, 10), 1},
	// Claims of different kinds, which say nothing of each other.
	{[]string{size(1, 5)}, entry(1, "1:a,"), -1},
	{[]string{entry(1, "1:a,")}, size(1, 5), -1},
	{[]string{size(1, 5)}, absent(2, "a"), -1},
	{[]string{absent(2, "a")}, size(1, 5), -1},
}

// P8.2, P8.4: a claim that contradicts an accepted one is ErrSplit, and Clash returns the first one that it contradicts; others are accepted.
func TestErrSplit(t *testing.T) {
	for _, c := range contradictions {
		r, v := newView(t, c.accepted...)
		want, clash := api.OK, api.Signed{}
		if c.first >= 0 {
			want, clash = api.ErrSplit, v.Claims()[c.first]
		}
		clashes(t, v, c.text, clash, c.first >= 0)
		accepts(t, v, r.Sign(3, c.text), want)
		clashes(t, v, c.text, clash, c.first >= 0)
	}
}

// P8.4: claims that are not of a log contradict none.
func TestClashOthers(t *testing.T) {
	for _, c := range contradictions {
		_, v := newView(t, c.accepted...)
		for _, text := range []string{built(0, "a"), built(1, "1:a,"), ran(0, 0, "a"), ran(1, 5, "b"), "5;0;0;1:a,", "", c.text + "x", "0" + c.text, strings.TrimSuffix(c.text, ",")} {
			clashes(t, v, text, api.Signed{}, false)
		}
	}
}

// P8.2: what was accepted is accepted again, and stays where it is.
func TestAcceptTwice(t *testing.T) {
	l := []string{entry(1, "1:a,x"), absent(5, "b"), size(2, 7), absent(3, "b"), size(1, 5), entry(0, "0:,"), absent(0, "a"), absent(1, "a"), entry(2, "1:a,x")}
	r, v := newView(t, l...)
	want, before := v.Claims(), says(v)
	for range 2 {
		for _, text := range l {
			accepts(t, v, r.Sign(3, text), api.OK)
		}
	}
	if got := v.Claims(); !slices.Equal(got, want) || len(got) != len(l) || says(v) != before {
		t.Errorf("the claims are %v, not %v", got, want)
	}
}

// P8.2: after an error the view accepts as before.
func TestAcceptAfterError(t *testing.T) {
	r, v := newView(t, entry(0, "1:a,"))
	accepts(t, v, r.Sign(3, absent(3, "a")), api.ErrSplit)
	accepts(t, v, r.Sign(3, entry(0, "1:b,")), api.ErrSplit)
	accepts(t, v, r.Sign(4, entry(1, "1:b,")), api.ErrKey)
	accepts(t, v, r.Sign(4, absent(1, "b")), api.ErrKey)
	accepts(t, v, r.Sign(4, size(9, 9)), api.ErrKey)
	accepts(t, v, r.Sign(3, entry(2, "1:a,")), api.OK)
	accepts(t, v, r.Sign(3, absent(1, "b")), api.OK)
	accepts(t, v, r.Sign(3, size(5, 5)), api.OK)
	accepts(t, v, r.Sign(3, size(4, 6)), api.ErrSplit)
	accepts(t, v, r.Sign(3, size(5, 6)), api.OK)
	accepts(t, v, r.Sign(3, entry(1, "1:b,")), api.OK)
	accepts(t, v, r.Sign(3, absent(2, "b")), api.ErrSplit)
	accepts(t, v, r.Sign(3, size(9, 7)), api.OK)
}

// P8.3: the size is that of the head with the greatest moment, whenever it was accepted.
func TestSize(t *testing.T) {
	r, v := newView(t)
	for i, c := range []struct{ n, time, wantN, wantTime int }{
		{3, 7, 3, 7}, {2, 5, 3, 7}, {3, 6, 3, 7}, {0, 0, 3, 7}, {3, 8, 3, 8}, {3, 7, 3, 8}, {200000, 1 << 30, 200000, 1 << 30}, {9, 100, 200000, 1 << 30},
	} {
		accepts(t, v, r.Sign(3, size(c.n, c.time)), api.OK)
		is(t, v, c.wantN, c.wantTime)
		accepts(t, v, r.Sign(3, entry(i, "1:a,")), api.OK)
		accepts(t, v, r.Sign(3, absent(100+i, "b")), api.OK)
		is(t, v, c.wantN, c.wantTime)
	}
}

// P8.3: a size of 0, also at the moment 0, is one.
func TestSizeZero(t *testing.T) {
	r, v := newView(t, size(0, 0))
	is(t, v, 0, 0)
	accepts(t, v, r.Sign(3, size(0, 4)), api.OK)
	is(t, v, 0, 4)
}

// P8.3: only claims of sizes are heads.
func TestNoHead(t *testing.T) {
	_, v := newView(t, entry(5, "1:a,"), absent(5, "a"))
	is(t, v, 0, -1)
}

// P8.3: what is known of entries.
func TestText(t *testing.T) {
	r, v := newView(t, size(5, 5), absent(1, "x"))
	l := map[int]string{}
	for _, i := range []int{3, 0, 199999, 1, 7} {
		l[i] = "1:a," + strconv.Itoa(i)
		accepts(t, v, r.Sign(3, entry(i, l[i])), api.OK)
		for _, k := range []int{-1, 0, 1, 2, 3, 4, 5, 6, 7, 8, 199998, 199999, 200000, math.MaxInt, math.MinInt, 1<<32 + 3} {
			text, known := l[k]
			knows(t, v, k, text, known)
		}
	}
}

// P8.3: all of the first entries are known.
func TestKnown(t *testing.T) {
	r, v := newView(t, size(9, 9))
	known := 0
	check := func(want int) {
		t.Helper()
		known = want
		for _, n := range []int{math.MinInt, -1, 0, 1, 2, 3, 4, 5, 6, 7, 199999, 200000, 1 << 32, 1 << 62, math.MaxInt} {
			if v.Known(n) != (n <= known) {
				t.Errorf("Known(%d) returns %v where %d are known", n, v.Known(n), known)
			}
		}
	}
	check(0)
	for _, c := range []struct{ i, want int }{{1, 0}, {3, 0}, {0, 2}, {4, 2}, {2, 5}, {2, 5}, {6, 5}, {5, 7}} {
		accepts(t, v, r.Sign(3, entry(c.i, "1:a,")), api.OK)
		check(c.want)
	}
}

// P8.3: the greatest number of a key that is absent; entries without it say nothing.
func TestAbsent(t *testing.T) {
	r, v := newView(t, entry(0, "1:a,"), entry(1, "1:b,"))
	for _, c := range []struct {
		n    int
		key  string
		want int
	}{{0, "x", 0}, {4, "x", 4}, {2, "x", 4}, {5, "x", 5}, {4, "x", 5}, {0, "a", 0}, {1, "b", 1}, {0, "b", 1}, {3, "", 3}, {200000, "1:a,", 200000}, {7, "a ", 7}, {6, "A", 6}} {
		accepts(t, v, r.Sign(3, absent(c.n, c.key)), api.OK)
		lacks(t, v, c.key, c.want, true)
	}
	lacks(t, v, "x", 5, true)
	lacks(t, v, "a", 0, true)
	for _, key := range []string{"c", "xx", "1:x,", "aa", " "} {
		lacks(t, v, key, 0, false)
	}
}

// P8.3: the claims are in the order in which they were accepted.
func TestClaims(t *testing.T) {
	r := seal.New()
	l := []api.Signed{r.Sign(3, size(9, 9)), r.Sign(3, entry(0, "1:a,")), r.Sign(3, absent(2, "b")), r.Sign(3, size(1, 1)), r.Sign(3, absent(1, "b")), r.Sign(3, entry(5, "0:,"))}
	for range 3 {
		v := view.New(r, 3)
		for i, s := range l {
			accepts(t, v, s, api.OK)
			if got := v.Claims(); !slices.Equal(got, l[:i+1]) {
				t.Errorf("the claims are %v, not %v", got, l[:i+1])
			}
		}
		slices.Reverse(l)
		l[0], l[2] = l[2], l[0]
	}
}

// The examples of the document.
func TestExamples(t *testing.T) {
	r, v := newView(t, size(2, 7), entry(0, "1:a,x"), absent(0, "a"))
	fourth := r.Sign(3, size(1, 8))
	is(t, v, 2, 7)
	if v.Age(9) != 2 || v.Age(6) != -1 || !v.Known(1) || v.Known(2) {
		t.Errorf("Age returns %d and %d, Known %v and %v", v.Age(9), v.Age(6), v.Known(1), v.Known(2))
	}
	knows(t, v, 0, "1:a,x", true)
	knows(t, v, 1, "", false)
	lacks(t, v, "a", 0, true)
	lacks(t, v, "b", 0, false)
	accepts(t, v, fourth, api.ErrSplit)
	if s, ok := v.Clash(fourth); s != v.Claims()[0] || !ok {
		t.Errorf("Clash returns %v, %v", s, ok)
	}
}
