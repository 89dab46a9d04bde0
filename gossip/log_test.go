package gossip_test

import (
	"math/rand"
	"slices"
	"strconv"
	"testing"

	"lading/api"
	"lading/book"
	"lading/claim"
	"lading/gossip"
	"lading/seal"
	"lading/view"
)

// small returns the claims of a small log: of entries with the keys a and b, of sizes, and of absent keys.
func small() []string {
	var l []string
	for n := range 3 {
		for _, text := range []string{"1:a,", "1:b,", "1:a,x"} {
			l = append(l, entry(n, text))
		}
		for time := range 3 {
			l = append(l, size(n, time))
		}
		for _, key := range []string{"a", "b"} {
			l = append(l, absent(n, key))
		}
	}
	return l
}

// contradict reports whether the claims with two texts contradict each other.
func contradict(a, b string) bool {
	c, _ := claim.Read(a)
	d, _ := claim.Read(b)
	return claim.Contradict(c, d)
}

// anyContradict reports whether two of some claims contradict each other.
func anyContradict(l []api.Signed) bool {
	for i, a := range l {
		for _, b := range l[:i] {
			if contradict(a.Text, b.Text) {
				return true
			}
		}
	}
	return false
}

// allPairs returns the pairs of n views, each turned as the bits say.
func allPairs(n, turned int) [][2]int {
	var l [][2]int
	for k := range n {
		for i := range k {
			pair := [2]int{i, k}
			if turned>>len(l)&1 == 1 {
				pair = [2]int{k, i}
			}
			l = append(l, pair)
		}
	}
	return l
}

// sorted returns claims by their marks.
func sorted(l []api.Signed) []api.Signed {
	return slices.SortedFunc(slices.Values(l), func(a, b api.Signed) int { return a.Mark - b.Mark })
}

// theorem checks P9.5 for views of one log with one ring, and an order in which each pair of them occurs; it reports whether there is a clash.
func theorem(t *testing.T, r *seal.Ring, l []*view.View, order [][2]int) bool {
	t.Helper()
	var all []api.Signed
	before := make([][]api.Signed, len(l))
	for i, v := range l {
		before[i] = v.Claims()
		all = append(all, before[i]...)
	}
	n, x, y, there := gossip.Spread(l, order)
	if there != anyContradict(all) {
		t.Fatalf("with %v, in the order %v, Spread returns %d, %v, %v, %v", before, order, n, x, y, there)
	}
	if there {
		if !slices.Contains(all, x) || !slices.Contains(all, y) || n < 0 || n >= len(order) {
			t.Fatalf("with %v, in the order %v, the clash is %v, %v, in the meeting %d", before, order, x, y, n)
		}
		convicts(t, r, x, y, api.OK)
		return true
	}
	if n != len(order) {
		t.Fatalf("Spread performs %d meetings of %d", n, len(order))
	}
	all = slices.Compact(sorted(all))
	for i, v := range l {
		// Each view has met each other one, so it knows all that any of them knew.
		claims := v.Claims()
		if !slices.Equal(claims[:len(before[i])], before[i]) || !slices.Equal(sorted(claims), all) {
			t.Fatalf("with %v, in the order %v, the view %d has then accepted %v", before, order, i, claims)
		}
	}
	return false
}

// P9.5 for all choices of three views with up to one claim each, in one order of their pairs after the other, turned in one way after the other.
func TestTheoremSmall(t *testing.T) {
	r := seal.New()
	var views []*view.View
	for _, text := range small() {
		views = append(views, newView(t, r, 3, text))
	}
	views = append(views, newView(t, r, 3))
	perms := [][3]int{{0, 1, 2}, {0, 2, 1}, {1, 0, 2}, {1, 2, 0}, {2, 0, 1}, {2, 1, 0}}
	n := 0
	for _, a := range views {
		for _, b := range views {
			for _, c := range views {
				pairs := allPairs(3, n/6%8)
				perm := perms[n%6]
				theorem(t, r, []*view.View{a.Copy(), b.Copy(), c.Copy()}, [][2]int{pairs[perm[0]], pairs[perm[1]], pairs[perm[2]]})
				n++
			}
		}
	}
}

// P9.5 for any views, and any orders in which each pair occurs, some of them more than once.
func TestTheorem(t *testing.T) {
	clashes := 0
	for seed := range int64(2000) {
		rnd := rand.New(rand.NewSource(seed))
		r := seal.New()
		texts := small()
		if rnd.Intn(2) == 0 {
			texts = truth(rnd)
		}
		var l []*view.View
		for range 2 + rnd.Intn(4) {
			v := view.New(r, 3)
			for range rnd.Intn(4) {
				v.Accept(r.Sign(3, texts[rnd.Intn(len(texts))]))
			}
			l = append(l, v)
		}
		order := allPairs(len(l), rnd.Intn(1<<10))
		for range rnd.Intn(4) {
			order = append(order, [2]int{rnd.Intn(7) - 1, rnd.Intn(7) - 1})
		}
		rnd.Shuffle(len(order), func(i, k int) { order[i], order[k] = order[k], order[i] })
		if theorem(t, r, l, order) {
			clashes++
		}
	}
	if clashes < 200 || clashes > 1800 {
		t.Errorf("%d of 2000 choices of views have a clash: too few of one kind", clashes)
	}
}

// truth returns claims of which no two contradict each other.
func truth(rnd *rand.Rand) []string {
	var l []string
	all := small()
	for range 200 {
		text := all[rnd.Intn(len(all))]
		if !slices.ContainsFunc(l, func(s string) bool { return contradict(s, text) }) {
			l = append(l, text)
		}
	}
	return l
}

// signedBy returns what a book of the key 3 has signed, whatever it was asked while it grew.
func signedBy(r *seal.Ring, rnd *rand.Rand, asked int) []api.Signed {
	b, _ := book.New(r, 3)
	var l []api.Signed
	for range asked {
		var s api.Signed
		e := api.ErrNone
		switch rnd.Intn(5) {
		case 0, 1:
			b.Append([]string{"1:a,", "1:b,", "0:,", "1:c,", "x"}[rnd.Intn(5)] + strconv.Itoa(rnd.Intn(3)))
		case 2:
			s, e = b.Entry(rnd.Intn(b.Len()+2) - 1)
		case 3:
			s, e = b.Head(rnd.Intn(20) + 3*len(l))
		default:
			s, e = b.Absent([]string{"a", "b", "", "c", "d"}[rnd.Intn(5)], rnd.Intn(b.Len()+2))
		}
		if e == api.OK {
			l = append(l, s)
		}
	}
	return l
}

// P9.6: no two signatures of a book convict its key, and views that accept them in any order have no clash, however they meet.
func TestBook(t *testing.T) {
	for seed := range int64(300) {
		rnd := rand.New(rand.NewSource(seed))
		r := seal.New()
		signed := signedBy(r, rnd, 40)
		for _, a := range signed {
			for _, b := range signed {
				convicts(t, r, a, b, api.ErrCheck)
			}
		}
		l := make([]*view.View, 5)
		for i := range l {
			l[i] = view.New(r, 3)
		}
		for _, n := range rnd.Perm(len(signed)) {
			if e := l[rnd.Intn(len(l))].Accept(signed[n]); e != api.OK {
				t.Fatalf("seed %d: Accept of %v returns %d", seed, signed[n], e)
			}
		}
		// Up to the last view and back, so that all of them know all.
		order := [][2]int{{0, 1}, {1, 2}, {2, 3}, {3, 4}, {4, 3}, {3, 2}, {2, 1}, {1, 0}}
		for range 20 {
			order = append(order, [2]int{rnd.Intn(5), rnd.Intn(5)})
		}
		spreads(t, l, order, len(order), api.Signed{}, api.Signed{}, false)
		all := sorted(slices.Compact(sorted(signed)))
		for _, v := range l {
			if got := sorted(v.Claims()); !slices.Equal(got, all) {
				t.Fatalf("seed %d: a view has accepted %v, not %v", seed, got, all)
			}
		}
	}
}

// P9.6: what another signer adds convicts the key together with what the book has signed, and only then.
func TestBookAndLiar(t *testing.T) {
	for seed := range int64(300) {
		rnd := rand.New(rand.NewSource(seed))
		r := seal.New()
		signed := signedBy(r, rnd, 40)
		honest, told := view.New(r, 3), view.New(r, 3)
		for _, s := range signed {
			honest.Accept(s)
		}
		all := small()
		lie := r.Sign(3, all[rnd.Intn(len(all))])
		told.Accept(lie)
		want := anyContradict(append(signed, lie))
		x, y, there := gossip.Meet(honest, told)
		if there != want {
			t.Fatalf("seed %d: the lie %v among %v clashes: %v", seed, lie, signed, there)
		}
		if there && (y != lie || gossip.Convict(r, x, y) != api.OK) {
			t.Fatalf("seed %d: the clash of the lie %v is %v, %v", seed, lie, x, y)
		}
	}
}

// P9.7: Convict for all pairs of signatures of small claims, and of what is none, in both orders.
func TestConvictPairs(t *testing.T) {
	r := seal.New()
	var l []api.Signed
	for _, text := range append(small(), built(1, "a"), built(2, "a"), ran(1, 1, "a"), ran(1, 1, "b"), "x", "") {
		l = append(l, r.Sign(3, text), r.Sign(4, text), api.Signed{Key: 5, Text: text, Mark: len(l)})
	}
	for _, a := range l {
		for _, b := range l {
			_, e := claim.Read(a.Text)
			_, f := claim.Read(b.Text)
			want := api.OK
			switch {
			case a.Key == 5 || b.Key == 5:
				want = api.ErrSeal
			case a.Key != b.Key:
				want = api.ErrKey
			case e != api.OK || f != api.OK:
				want = api.ErrForm
			case !contradict(a.Text, b.Text):
				want = api.ErrCheck
			}
			convicts(t, r, a, b, want)
		}
	}
}

// P9.7: after a meeting without a clash both views have accepted the same claims, and meeting again, either way, changes nothing; with a clash it is the same clash again.
func TestAgain(t *testing.T) {
	for seed := range int64(1000) {
		rnd := rand.New(rand.NewSource(seed))
		r := seal.New()
		texts := small()
		if seed%2 == 0 {
			texts = truth(rnd)
		}
		a, b := view.New(r, 3), view.New(r, 3)
		for range rnd.Intn(6) {
			a.Accept(r.Sign(3, texts[rnd.Intn(len(texts))]))
			b.Accept(r.Sign(3, texts[rnd.Intn(len(texts))]))
		}
		if x, y, there := gossip.Meet(a, b); there {
			clash(t, a, b, x, y)
			if p, q, is := gossip.Meet(b, a); !is || !contradict(p.Text, q.Text) {
				t.Fatalf("seed %d: the other way round the clash is %v, %v, %v", seed, p, q, is)
			}
			continue
		}
		ofA, ofB := a.Claims(), b.Claims()
		if !slices.Equal(sorted(ofA), sorted(ofB)) {
			t.Fatalf("seed %d: two views that have met have accepted %v and %v", seed, ofA, ofB)
		}
		for i := range 4 {
			if i%2 == 0 {
				agree(t, a, b)
			} else {
				agree(t, b, a)
			}
			if !slices.Equal(a.Claims(), ofA) || !slices.Equal(b.Claims(), ofB) {
				t.Fatalf("seed %d: meeting again changes what views have accepted, to %v and %v", seed, a.Claims(), b.Claims())
			}
		}
	}
}

// P9.1, P9.3 and P9.5 for the views of a full log, each of which knows some of it.
func TestFull(t *testing.T) {
	r := seal.New()
	b, _ := book.New(r, 3)
	l := []*view.View{view.New(r, 3), view.New(r, 3), view.New(r, 3), view.New(r, 3)}
	for i := range 200000 {
		b.Append("6:" + strconv.Itoa(100000+i) + ",")
	}
	for i := range 200000 {
		s, _ := b.Entry(i)
		if e := l[i%3].Accept(s); e != api.OK {
			t.Fatalf("Accept of %v returns %d", s, e)
		}
	}
	spreads(t, l, [][2]int{{0, 1}, {1, 2}, {0, 2}}, 3, api.Signed{}, api.Signed{}, false)
	for i, v := range l[:3] {
		if len(v.Claims()) != 200000 || !v.Known(200000) || v.Known(200001) {
			t.Errorf("the view %d has accepted %d claims", i, len(v.Claims()))
		}
	}
	lie := r.Sign(3, absent(200000, "299999"))
	if e := l[3].Accept(lie); e != api.OK {
		t.Fatalf("Accept returns %d", e)
	}
	last, _ := b.Entry(199999)
	spreads(t, l, [][2]int{{0, 1}, {2, 2}, {3, 1}}, 2, lie, last, true)
	spreads(t, l, [][2]int{{1, 3}}, 0, last, lie, true)
	convicts(t, r, last, lie, api.OK)
}
