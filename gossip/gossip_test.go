package gossip_test

import (
	"fmt"
	"math"
	"slices"
	"strings"
	"testing"

	"lading/api"
	"lading/gossip"
	"lading/seal"
	"lading/view"
)

// entry, size, absent, built and ran return the texts of claims.
func entry(n int, text string) string { return fmt.Sprintf("0;%d;0;%d:%s,", n, len(text), text) }
func size(n, time int) string         { return fmt.Sprintf("1;%d;%d;0:,", n, time) }
func absent(n int, key string) string { return fmt.Sprintf("2;%d;0;%d:%s,", n, len(key), key) }
func built(n int, text string) string { return fmt.Sprintf("3;%d;0;%d:%s,", n, len(text), text) }
func ran(n, time int, text string) string {
	return fmt.Sprintf("4;%d;%d;%d:%s,", n, time, len(text), text)
}

// newView returns a view of a key that has accepted these texts, which the key signs by the ring.
func newView(t *testing.T, r *seal.Ring, key int, texts ...string) *view.View {
	t.Helper()
	v := view.New(r, key)
	for _, text := range texts {
		if e := v.Accept(r.Sign(key, text)); e != api.OK {
			t.Fatalf("Accept of %.60q returns %d", text, e)
		}
	}
	return v
}

// says writes down all that a view says of a small log.
func says(v *view.View) string {
	n, time := v.Size()
	s := fmt.Sprintf("%.300q, size %d at %d", v.Bytes(), n, time)
	for i := range 6 {
		text, known := v.Text(i)
		s += fmt.Sprintf("; %d: %.60q %v %v", i, text, known, v.Known(i))
	}
	for _, key := range []string{"a", "b", "", "c"} {
		n, known := v.Absent(key)
		s += fmt.Sprintf("; %q: %d %v", key, n, known)
	}
	return s
}

// textsOf returns the texts that a view has accepted.
func textsOf(v *view.View) []string {
	var l []string
	for _, s := range v.Claims() {
		l = append(l, s.Text)
	}
	return l
}

// has requires that a view has accepted these texts, and says what follows from them.
func has(t *testing.T, r *seal.Ring, v *view.View, texts ...string) {
	t.Helper()
	if l := textsOf(v); !slices.Equal(l, texts) {
		t.Errorf("a view has accepted %.300q, not %.300q", l, texts)
	} else if got, want := says(v), says(newView(t, r, v.Key(), texts...)); got != want {
		t.Errorf("a view says\n%s\nnot\n%s", got, want)
	}
}

// agree requires a meeting without a clash.
func agree(t *testing.T, a, b *view.View) {
	t.Helper()
	if x, y, there := gossip.Meet(a, b); x != (api.Signed{}) || y != (api.Signed{}) || there {
		t.Errorf("Meet returns %v, %v, %v", x, y, there)
	}
}

// clash requires a meeting with a clash, which changes nothing.
func clash(t *testing.T, a, b *view.View, wantX, wantY api.Signed) {
	t.Helper()
	before := says(a) + says(b)
	ofA, ofB := a.Claims(), b.Claims()
	if x, y, there := gossip.Meet(a, b); x != wantX || y != wantY || !there {
		t.Errorf("Meet returns %v, %v, %v, not %v, %v", x, y, there, wantX, wantY)
	}
	if says(a)+says(b) != before || !slices.Equal(a.Claims(), ofA) || !slices.Equal(b.Claims(), ofB) {
		t.Errorf("Meet with a clash changes what views have accepted to %v and %v", a.Claims(), b.Claims())
	}
}

// convicts requires what Convict returns for two signatures, in both orders (P9.7), and that it changes nothing (P9.4).
func convicts(t *testing.T, r *seal.Ring, a, b api.Signed, want api.Errno) {
	t.Helper()
	var before, after []api.Sealed
	if r != nil {
		before = r.All()
	}
	if e, f := gossip.Convict(r, a, b), gossip.Convict(r, b, a); e != want || f != want {
		t.Errorf("Convict of %.60q and %.60q (%d, %d; %d, %d) returns %d, and %d the other way round, not %d", a.Text, b.Text, a.Key, a.Mark, b.Key, b.Mark, e, f, want)
	}
	if r != nil {
		after = r.All()
	}
	if !slices.Equal(before, after) {
		t.Errorf("Convict changes the ring to %v", after)
	}
}

// The examples of the chapter.
func TestExamples(t *testing.T) {
	r := seal.New()
	x, y := r.Sign(3, size(2, 7)), r.Sign(3, size(1, 8))
	clash(t, newView(t, r, 3, x.Text), newView(t, r, 3, y.Text), x, y)
	convicts(t, r, x, y, api.OK)
	convicts(t, r, x, x, api.ErrCheck)
	for _, n := range []int{-1, 0, 2} {
		s := y
		s.Mark = n
		convicts(t, r, x, s, api.ErrSeal)
	}
	a, b := newView(t, r, 3, x.Text), newView(t, r, 3, entry(0, "1:a,"))
	agree(t, a, b)
	has(t, r, a, x.Text, entry(0, "1:a,"))
	has(t, r, b, entry(0, "1:a,"), x.Text)
	l := []*view.View{newView(t, r, 3, x.Text), newView(t, r, 3), newView(t, r, 3, y.Text)}
	if n, c, d, there := gossip.Spread(l, [][2]int{{0, 1}, {1, 2}}); n != 1 || c != x || d != y || !there {
		t.Errorf("Spread returns %d, %v, %v, %v", n, c, d, there)
	}
}

// pairing are two claims of a log, and whether they contradict each other.
type pairing struct {
	a, b string
	is   bool
}

func pairings() []pairing {
	return []pairing{
		{entry(0, "1:a,"), entry(0, "1:b,"), true},
		{entry(0, "1:a,"), entry(0, "1:a,x"), true},
		{entry(199999, "1:a,"), entry(199999, "1:b,"), true},
		{entry(0, "1:a,"), entry(1, "1:a,"), false},
		{entry(0, "1:a,"), entry(1, "1:b,"), false},
		{size(2, 7), size(1, 8), true},
		{size(2, 7), size(1, 7), true},
		{size(2, 7), size(0, 1<<30), true},
		{size(200000, 0), size(199999, 1), true},
		{size(2, 7), size(2, 8), false},
		{size(2, 7), size(3, 8), false},
		{size(0, 0), size(200000, 1<<30), false},
		{entry(0, "1:a,"), absent(1, "a"), true},
		{entry(4, "1:a,x"), absent(5, "a"), true},
		{entry(4, "0:,x"), absent(200000, ""), true},
		{entry(4, "1:a,"), absent(4, "a"), false},
		{entry(4, "1:a,"), absent(5, "b"), false},
		{entry(4, "1:a,"), absent(5, "1:a,"), false},
		{absent(4, "a"), absent(5, "a"), false},
		{absent(4, "a"), absent(4, "b"), false},
		{size(2, 7), entry(2, "1:a,"), false},
		{size(0, 7), entry(9, "1:a,"), false},
		{size(2, 7), absent(3, "a"), false},
	}
}

// meets requires the meeting of two new views with these texts, of which only x and y can contradict each other.
func meets(t *testing.T, ofA, ofB []string, x, y string, is bool) {
	t.Helper()
	r := seal.New()
	a, b := newView(t, r, 3, ofA...), newView(t, r, 3, ofB...)
	if is {
		clash(t, a, b, r.Sign(3, x), r.Sign(3, y))
		return
	}
	agree(t, a, b)
	has(t, r, a, slices.Concat(ofA, ofB)...)
	has(t, r, b, slices.Concat(ofB, ofA)...)
}

// P9.1: views with a claim each, alone and among others, in both orders.
func TestMeetPairs(t *testing.T) {
	some, more := []string{entry(50, "1:k,"), absent(50, "k")}, []string{entry(51, "1:k,x"), absent(49, "k"), entry(52, "1:m,")}
	for _, c := range pairings() {
		for _, p := range []pairing{c, {c.b, c.a, c.is}} {
			meets(t, []string{p.a}, []string{p.b}, p.a, p.b, p.is)
			meets(t, append(slices.Clone(some), p.a), []string{p.b}, p.a, p.b, p.is)
			meets(t, []string{p.a}, append(slices.Clone(more), p.b), p.a, p.b, p.is)
			meets(t, append([]string{p.a}, more...), append(slices.Clone(some), p.b), p.a, p.b, p.is)
			meets(t, append(slices.Clone(some), p.a), append([]string{p.b}, more...), p.a, p.b, p.is)
		}
	}
}

// P9.1: of several claims that contradict each other, the first one of the first view counts, and then the first one of the second view.
func TestMeetFirst(t *testing.T) {
	for _, c := range []struct {
		a, b []string
		x, y int
	}{
		{[]string{entry(0, "1:a,"), entry(1, "1:a,")}, []string{entry(1, "1:b,"), entry(0, "1:b,")}, 0, 1},
		{[]string{entry(1, "1:a,"), entry(0, "1:a,")}, []string{entry(1, "1:b,"), entry(0, "1:b,")}, 0, 0},
		{[]string{entry(2, "1:a,"), entry(1, "1:a,"), entry(0, "1:a,")}, []string{entry(0, "1:b,"), entry(2, "1:a,"), entry(1, "1:c,")}, 1, 2},
		{[]string{size(5, 5)}, []string{size(6, 4), size(6, 3), size(7, 5)}, 0, 0},
		{[]string{size(5, 5)}, []string{size(1, 1), size(6, 4), size(7, 6), size(6, 3)}, 0, 1},
		{[]string{size(5, 5)}, []string{size(1, 1), size(6, 5), size(6, 4)}, 0, 1},
		{[]string{size(9, 9), size(5, 5), size(4, 4)}, []string{size(1, 1), size(6, 4), size(5, 3)}, 1, 1},
		{[]string{absent(5, "a")}, []string{entry(5, "1:a,"), entry(4, "1:a,"), entry(3, "1:a,")}, 0, 1},
		{[]string{absent(1, "a"), absent(5, "a"), absent(4, "a")}, []string{entry(3, "1:a,"), entry(2, "1:a,")}, 1, 0},
		{[]string{entry(4, "1:a,")}, []string{absent(4, "a"), absent(5, "a"), absent(6, "a")}, 0, 1},
		{[]string{entry(4, "1:a,")}, []string{absent(6, "b"), entry(4, "1:c,"), absent(6, "a")}, 0, 1},
		{[]string{entry(4, "1:a,")}, []string{absent(6, "a"), absent(6, "b"), entry(4, "1:c,")}, 0, 0},
		{[]string{size(2, 2), entry(4, "1:a,"), absent(9, "b")}, []string{entry(8, "1:b,"), absent(5, "a"), size(1, 3)}, 0, 2},
		{[]string{absent(9, "b"), size(2, 2), entry(4, "1:a,")}, []string{size(1, 3), absent(5, "a"), entry(8, "1:b,")}, 0, 2},
	} {
		r := seal.New()
		a, b := newView(t, r, 3, c.a...), newView(t, r, 3, c.b...)
		clash(t, a, b, a.Claims()[c.x], b.Claims()[c.y])
	}
}

// P9.1: without a clash each view has what it had, and then, in the order of the other one, what that one had before.
func TestMeetAccepts(t *testing.T) {
	x, y, z := entry(0, "1:x,"), size(3, 3), absent(7, "a")
	for _, c := range []struct{ a, b, wantA, wantB []string }{
		{nil, nil, nil, nil},
		{nil, []string{x}, []string{x}, []string{x}},
		{[]string{x}, nil, []string{x}, []string{x}},
		{[]string{x}, []string{x}, []string{x}, []string{x}},
		{[]string{x, y}, []string{y, x}, []string{x, y}, []string{y, x}},
		{[]string{x, y}, []string{z, y}, []string{x, y, z}, []string{z, y, x}},
		{nil, []string{z, x, y}, []string{z, x, y}, []string{z, x, y}},
		{[]string{z, x, y}, nil, []string{z, x, y}, []string{z, x, y}},
		{[]string{y}, []string{z, x}, []string{y, z, x}, []string{z, x, y}},
		{[]string{y}, []string{z, y, x}, []string{y, z, x}, []string{z, y, x}},
		{[]string{y, x, z}, []string{x}, []string{y, x, z}, []string{x, y, z}},
		{[]string{size(9, 9), size(4, 4), size(6, 6)}, []string{size(7, 7), size(4, 4), size(1, 1)}, []string{size(9, 9), size(4, 4), size(6, 6), size(7, 7), size(1, 1)}, []string{size(7, 7), size(4, 4), size(1, 1), size(9, 9), size(6, 6)}},
	} {
		r := seal.New()
		a, b := newView(t, r, 3, c.a...), newView(t, r, 3, c.b...)
		signed := r.All()
		for range 2 {
			agree(t, a, b)
			has(t, r, a, c.wantA...)
			has(t, r, b, c.wantB...)
			agree(t, b, a)
			has(t, r, a, c.wantA...)
			has(t, r, b, c.wantB...)
		}
		if !slices.Equal(r.All(), signed) {
			t.Errorf("the ring has %v, not %v", r.All(), signed)
		}
	}
}

// P9.1: views of two keys, or without one of them, do not meet, whatever they have accepted.
func TestMeetNotOfOneLog(t *testing.T) {
	r := seal.New()
	for key := range 200 {
		for _, other := range []int{(key + 1) % 200, (key + 100) % 200, 199 - key} {
			for _, text := range []string{entry(0, "1:a,"), entry(0, "1:b,"), size(5, 5)} {
				a, b := newView(t, r, key, entry(0, "1:a,")), newView(t, r, other, text)
				agree(t, a, b)
				has(t, r, a, entry(0, "1:a,"))
				has(t, r, b, text)
			}
		}
		a, b := newView(t, r, key, entry(0, "1:a,")), newView(t, r, key, entry(1, "1:b,"))
		agree(t, a, b)
		has(t, r, a, entry(0, "1:a,"), entry(1, "1:b,"))
		has(t, r, b, entry(1, "1:b,"), entry(0, "1:a,"))
		clash(t, a, newView(t, r, key, entry(1, "1:c,")), b.Claims()[0], r.Sign(key, entry(1, "1:c,")))
	}
	for _, v := range []*view.View{nil, newView(t, r, 0), newView(t, r, 3, size(1, 1))} {
		agree(t, v, nil)
		agree(t, nil, v)
		if v != nil && len(v.Claims()) > 0 {
			has(t, r, v, size(1, 1))
		}
	}
}

// P9.1: a view that meets itself, or its copy, accepts nothing new.
func TestMeetItself(t *testing.T) {
	for _, l := range [][]string{{}, {size(1, 1)}, {entry(0, "1:a,"), absent(0, "a"), size(2, 2), size(1, 1)}} {
		r := seal.New()
		v := newView(t, r, 3, l...)
		agree(t, v, v)
		has(t, r, v, l...)
		c := v.Copy()
		agree(t, v, c)
		agree(t, c, v)
		has(t, r, v, l...)
		has(t, r, c, l...)
	}
}

// P9.4: views that have met are independent of each other, and of their copies.
func TestMeetIndependent(t *testing.T) {
	for n := range 9 {
		r := seal.New()
		a, b := newView(t, r, 3), newView(t, r, 3, size(1, 1))
		want := []string{size(1, 1)}
		for i := range n {
			a.Accept(r.Sign(3, entry(i, "1:a,")))
			want = append(want, entry(i, "1:a,"))
		}
		before, kept := b.Copy(), b.Claims()
		agree(t, a, b)
		a.Accept(r.Sign(3, entry(20, "1:x,")))
		b.Accept(r.Sign(3, entry(20, "1:y,")))
		has(t, r, b, append(want, entry(20, "1:y,"))...)
		has(t, r, a, append(want[1:], size(1, 1), entry(20, "1:x,"))...)
		has(t, r, before, size(1, 1))
		if !slices.Equal(kept, before.Claims()) {
			t.Errorf("the claims that were there before are %v", kept)
		}
	}
}

// P9.1: views with two rings accept what their own ring has, and leave out the rest.
func TestMeetRings(t *testing.T) {
	r := seal.New()
	r.Sign(3, size(1, 1))
	q := r.Copy()
	a := newView(t, r, 3, size(1, 1), size(2, 2), size(4, 4))
	b := newView(t, q, 3, size(3, 3), size(1, 1), size(5, 5), size(6, 6))
	// Each of the two has the mark 1 for a text of its own, and knows that of the other one with another mark, or not at all.
	agree(t, a, b)
	has(t, r, a, size(1, 1), size(2, 2), size(4, 4))
	has(t, q, b, size(3, 3), size(1, 1), size(5, 5), size(6, 6))
	// The mark 3 is that of the same text in both rings now, and the mark 0 was it before.
	r.Sign(3, size(6, 6))
	agree(t, a, b)
	has(t, r, a, size(1, 1), size(2, 2), size(4, 4), size(6, 6))
	has(t, q, b, size(3, 3), size(1, 1), size(5, 5), size(6, 6))
	// What comes behind a claim that is left out is accepted all the same, in both directions.
	c, d := newView(t, r, 3, size(2, 2), size(6, 6), size(4, 4), size(1, 1)), newView(t, q, 3, size(5, 5))
	agree(t, d, c)
	has(t, q, d, size(5, 5), size(6, 6), size(1, 1))
	has(t, r, c, size(2, 2), size(6, 6), size(4, 4), size(1, 1))
}

// P9.1: a clash does not depend on the rings, and convicts only for one that has both signatures.
func TestMeetRingsClash(t *testing.T) {
	r, q := seal.New(), seal.New()
	r.Sign(3, "x")
	a, b := newView(t, r, 3, size(2, 2)), newView(t, q, 3, size(9, 9), size(1, 3))
	x, y := api.Signed{Key: 3, Text: size(2, 2), Mark: 1}, api.Signed{Key: 3, Text: size(1, 3), Mark: 1}
	clash(t, a, b, x, y)
	clash(t, b, a, y, x)
	convicts(t, r, x, y, api.ErrSeal)
	convicts(t, q, x, y, api.ErrSeal)
}

// contradictions are texts of claims, two of each kind that contradict each other in each way.
func contradictions() [][2]string {
	return [][2]string{
		{entry(0, "1:a,"), entry(0, "1:b,")}, {entry(3, "1:a,"), entry(3, "1:a,x")}, {size(2, 7), size(1, 8)}, {size(2, 7), size(3, 7)}, {entry(0, "1:a,"), absent(1, "a")}, {entry(7, "0:,"), absent(200000, "")},
		{built(5, "geo"), built(6, "geo")}, {built(0, ""), built(1<<30, "")}, {ran(1, 2, "a"), ran(1, 2, "b")}, {ran(1<<30, 1<<30, ""), ran(1<<30, 1<<30, "b")},
	}
}

// P9.2: two claims of one key that contradict each other convict it, for each key and each kind.
func TestConvict(t *testing.T) {
	for _, c := range contradictions() {
		r := seal.New()
		r.Sign(5, "x")
		for key := range 200 {
			a, b := r.Sign(key, c[0]), r.Sign(key, c[1])
			convicts(t, r, a, b, api.OK)
			convicts(t, r, a, a, api.ErrCheck)
			convicts(t, r, b, b, api.ErrCheck)
			other := r.Sign((key+1)%200, c[1])
			convicts(t, r, a, other, api.ErrKey)
		}
		for range 2 {
			convicts(t, r, r.Sign(3, c[0]), r.Sign(3, c[1]), api.OK)
		}
		convicts(t, r.Copy(), r.Sign(3, c[0]), r.Sign(3, c[1]), api.OK)
	}
}

// P9.2: claims that do not contradict each other convict nobody.
func TestConvictErrCheck(t *testing.T) {
	r := seal.New()
	l := pairings()
	for _, c := range [][2]string{
		{built(5, "geo"), built(5, "geo 1")}, {built(5, "geo"), built(6, "gea")}, {ran(1, 2, "a"), ran(1, 3, "b")}, {ran(1, 2, "a"), ran(2, 2, "b")}, {ran(2, 0, "a"), built(2, "b")}, {entry(0, "1:a,"), built(0, "1:b,")}, {absent(1, "a"), ran(0, 0, "1:a,")}, {absent(1, "a"), built(0, "1:a,")}, {size(2, 7), ran(1, 8, "")},
	} {
		l = append(l, pairing{c[0], c[1], false})
	}
	for _, c := range l {
		want := api.ErrCheck
		if c.is {
			want = api.OK
		}
		convicts(t, r, r.Sign(3, c.a), r.Sign(3, c.b), want)
	}
}

// P9.2: the texts of claims up to the limits, and those beyond them.
func TestConvictLimits(t *testing.T) {
	r := seal.New()
	x := strings.Repeat("x", 20000)
	for _, c := range []struct {
		a, b string
		want api.Errno
	}{
		{entry(199999, "1:a,"), entry(199999, "1:b,"), api.OK}, {entry(200000, "1:a,"), entry(200000, "1:b,"), api.ErrForm},
		{entry(0, "1:a,"+x[4:]), entry(0, "1:b,"+x[4:]), api.OK}, {entry(0, "1:a,"), entry(0, "1:b,"+x[3:]), api.ErrForm},
		{size(200000, 0), size(199999, 1<<30), api.OK}, {size(200001, 0), size(199999, 1<<30), api.ErrForm}, {size(200000, 0), size(199999, 1<<30+1), api.ErrForm},
		{absent(200000, "a"), entry(0, "1:a,"), api.OK}, {absent(200001, "a"), entry(0, "1:a,"), api.ErrForm}, {absent(1, x), absent(1, x), api.ErrCheck}, {absent(1, x+"x"), absent(1, x), api.ErrForm},
		{built(1<<30, x), built(0, x), api.OK}, {built(1<<30+1, x), built(0, x), api.ErrForm}, {built(1, x+"x"), built(0, x+"x"), api.ErrForm},
		{ran(1<<30, 1<<30, x), ran(1<<30, 1<<30, ""), api.OK}, {ran(1<<30+1, 0, ""), ran(1<<30, 0, ""), api.ErrForm}, {ran(0, 1<<30, x+"x"), ran(0, 1<<30, x), api.ErrForm}, {ran(0, 1<<30+1, "a"), ran(0, 1<<30+1, "b"), api.ErrForm},
	} {
		convicts(t, r, r.Sign(3, c.a), r.Sign(3, c.b), c.want)
	}
}

// noClaims are texts that are not those of claims, among them some of a claim with another way to write it.
func noClaims() []string {
	return []string{"", "x", "hello", "1;2;7;0:", "1;2;7;0:,,", "1;2;7;0:,x", " 1;2;7;0:,", "01;2;7;0:,", "1;02;7;0:,", "1;-2;7;0:,", "1;2;7;1:x,", "1;2;7;", "1;2;7", "5;0;0;0:,", "-1;0;0;0:,", "0;0;0;1:a,", "0;0;0;4:1:ab,", "0;0;1;4:1:a,,", "2;0;1;1:a,", "3;0;1;1:a,", "1;200001;7;0:,"}
}

// P9.2: ErrForm for a text that is not that of a claim, on either side.
func TestConvictErrForm(t *testing.T) {
	r := seal.New()
	for _, text := range noClaims() {
		for _, other := range append(noClaims(), size(1, 8), entry(0, "1:a,")) {
			convicts(t, r, r.Sign(3, text), r.Sign(3, other), api.ErrForm)
		}
	}
}

// P9.2: the first error that applies counts.
func TestConvictOrder(t *testing.T) {
	r := seal.New()
	x, y, z, text := r.Sign(3, size(2, 7)), r.Sign(3, size(1, 8)), r.Sign(4, size(1, 8)), r.Sign(3, "x")
	other := r.Sign(4, "y")
	var bad []api.Signed
	for _, n := range []int{-1, 1, 2, 3, 4, 5, 1 << 40, math.MaxInt, math.MinInt} {
		bad = append(bad, api.Signed{Key: 3, Text: size(2, 7), Mark: n})
	}
	for _, key := range []int{-1, 2, 4, 199, 200, 259, math.MaxInt, math.MinInt} {
		bad = append(bad, api.Signed{Key: key, Text: size(2, 7)})
	}
	bad = append(bad, api.Signed{}, api.Signed{Key: 3}, api.Signed{Key: 3, Text: size(2, 8)}, api.Signed{Key: 3, Text: size(2, 7)[1:]}, api.Signed{Key: 3, Text: "x"})
	all := []api.Signed{x, y, z, text, other}
	for _, s := range bad {
		for _, p := range slices.Concat(all, bad) {
			convicts(t, r, s, p, api.ErrSeal)
			convicts(t, nil, s, p, api.ErrArg)
		}
	}
	for i, s := range all {
		for k, p := range all {
			want := api.ErrCheck
			switch {
			case s.Key != p.Key:
				want = api.ErrKey
			case i >= 3 || k >= 3:
				want = api.ErrForm
			case s == x && p == y, s == y && p == x:
				want = api.OK
			}
			convicts(t, r, s, p, want)
			convicts(t, nil, s, p, api.ErrArg)
			convicts(t, seal.New(), s, p, api.ErrSeal)
		}
	}
}
