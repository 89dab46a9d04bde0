package view_test

import (
	"fmt"
	"math/rand"
	"slices"
	"strconv"
	"testing"

	"lading/api"
	"lading/book"
	"lading/claim"
	"lading/seal"
	"lading/view"
)

// small returns all claims of a small log: of entries with the keys a and b, of sizes, and of absent keys.
func small() []string {
	var l []string
	for n := range 3 {
		for _, text := range []string{"1:a,", "1:b,", "1:a,x"} {
			l = append(l, entry(n, text))
		}
		for time := range 3 {
			l = append(l, size(n, time))
		}
		for _, key := range []string{"a", "b"} {
			l = append(l, absent(n, key))
		}
	}
	return l
}

// contradict reports whether the claims with two texts contradict each other.
func contradict(a, b string) bool {
	c, _ := claim.Read(a)
	d, _ := claim.Read(b)
	return claim.Contradict(c, d)
}

// P8.7: no two accepted claims contradict each other, and what is refused contradicts the one that Clash returns; both hold.
func TestConvicts(t *testing.T) {
	for seed := range int64(300) {
		rnd := rand.New(rand.NewSource(seed))
		r, v := newView(t)
		l := small()
		for range 40 {
			s := r.Sign(3, l[rnd.Intn(len(l))])
			clash, there := v.Clash(s)
			e := v.Accept(s)
			if there != (e == api.ErrSplit) || e != api.OK && e != api.ErrSplit {
				t.Fatalf("seed %d: Accept of %q returns %d, Clash %v", seed, s.Text, e, there)
			}
			if there && (!r.Valid(clash) || clash.Key != 3 || !slices.Contains(v.Claims(), clash) || !contradict(clash.Text, s.Text)) {
				t.Fatalf("seed %d: the clash of %q is %v", seed, s.Text, clash)
			}
		}
		claims := v.Claims()
		for i, a := range claims {
			for _, b := range claims[:i] {
				if contradict(a.Text, b.Text) {
					t.Fatalf("seed %d: %q and %q are both accepted", seed, b.Text, a.Text)
				}
			}
		}
	}
}

// P8.7: for all pairs of claims of a small log, and all others between them: the second one is refused exactly if they contradict each other.
func TestAllPairs(t *testing.T) {
	l := small()
	for _, a := range l {
		for _, b := range l {
			r, v := newView(t, a)
			want, clash := api.OK, api.Signed{}
			if contradict(a, b) {
				want, clash = api.ErrSplit, v.Claims()[0]
			}
			clashes(t, v, b, clash, want != api.OK)
			accepts(t, v, r.Sign(3, b), want)
		}
	}
}

// P8.8: what a view says of an entry does not change, and all else only grows.
func TestGrows(t *testing.T) {
	keys := []string{"a", "b"}
	for seed := range int64(300) {
		rnd := rand.New(rand.NewSource(seed))
		r, v := newView(t)
		l := small()
		for range 40 {
			before := v.Copy()
			s := r.Sign(3, l[rnd.Intn(len(l))])
			v.Accept(s)
			_, was := before.Size()
			if _, time := v.Size(); time < was {
				t.Fatalf("seed %d: after %q the head is at %d, not %d", seed, s.Text, time, was)
			}
			for i := range 4 {
				if text, ok := before.Text(i); ok {
					knows(t, v, i, text, true)
				}
				if before.Known(i) && !v.Known(i) {
					t.Fatalf("seed %d: after %q the first %d entries are not known", seed, s.Text, i)
				}
			}
			for _, key := range keys {
				was, there := before.Absent(key)
				if n, ok := v.Absent(key); n < was || there && !ok {
					t.Fatalf("seed %d: after %q the key %q is absent from %d, not %d", seed, s.Text, key, n, was)
				}
			}
		}
	}
}

// P8.8: what a view says does not depend on the order of what it has accepted.
func TestOrder(t *testing.T) {
	for seed := range int64(300) {
		rnd := rand.New(rand.NewSource(seed))
		r, v := newView(t)
		l := small()
		for range 30 {
			v.Accept(r.Sign(3, l[rnd.Intn(len(l))]))
		}
		w := view.New(r, 3)
		claims := v.Claims()
		rnd.Shuffle(len(claims), func(i, k int) { claims[i], claims[k] = claims[k], claims[i] })
		for _, s := range claims {
			accepts(t, w, s, api.OK)
		}
		if says(v) != says(w) {
			t.Fatalf("seed %d: in the order %v the view says\n%s\nnot\n%s", seed, claims, says(w), says(v))
		}
		for _, text := range l {
			_, is := w.Clash(api.Signed{Text: text})
			if _, want := v.Clash(api.Signed{Text: text}); is != want {
				t.Fatalf("seed %d: in the order %v %q has a clash: %v", seed, claims, text, is)
			}
		}
	}
}

// told is what a book has signed, and how many entries it had at each of its heads.
type told struct {
	book   *book.Book
	signed []api.Signed
	sizes  map[int]int
}

// tell lets a book grow, and lets it sign what it is asked.
func tell(t *testing.T, r *seal.Ring, rnd *rand.Rand) told {
	t.Helper()
	b, _ := book.New(r, 3)
	w := told{b, nil, map[int]int{}}
	time := 0
	for range 60 {
		var s api.Signed
		e := api.OK
		switch rnd.Intn(4) {
		case 0:
			_, e = b.Append([]string{"1:a,", "1:b,", "0:,", "1:c,"}[rnd.Intn(4)] + strconv.Itoa(rnd.Intn(3)))
		case 1:
			s, e = b.Entry(rnd.Intn(b.Len() + 1))
		case 2:
			s, e = b.Head(time)
			w.sizes[time] = b.Len()
			time += 1 + rnd.Intn(3)
		default:
			s, e = b.Absent([]string{"a", "b", "", "c", "d"}[rnd.Intn(5)], rnd.Intn(b.Len()+1))
		}
		if e == api.OK && s.Text != "" {
			w.signed = append(w.signed, s)
		}
	}
	return w
}

// truth returns what is said by a view, but not true of the book.
func (w told) truth(v *view.View) string {
	if n, time := v.Size(); time >= 0 && w.sizes[time] != n {
		return fmt.Sprintf("the size is %d at %d, not %d", n, time, w.sizes[time])
	}
	for i := -1; i <= w.book.Len(); i++ {
		if text, ok := v.Text(i); ok {
			if want, there := w.book.Text(i); !there || text != want {
				return fmt.Sprintf("the entry %d is %q, not %q", i, text, want)
			}
		}
	}
	for _, key := range []string{"a", "b", "", "c", "d"} {
		n, ok := v.Absent(key)
		if !ok {
			continue
		}
		for i := range n {
			text, there := w.book.Text(i)
			if k, _ := claim.Key(text); !there || k == key {
				return fmt.Sprintf("%q is absent from %d, but the entry %d is %q", key, n, i, text)
			}
		}
	}
	return ""
}

// P8.9: whatever a book has signed is accepted in whatever order, and what the view says is true of the book.
func TestBook(t *testing.T) {
	for seed := range int64(300) {
		rnd := rand.New(rand.NewSource(seed))
		r := seal.New()
		w := tell(t, r, rnd)
		v := view.New(r, 3)
		rnd.Shuffle(len(w.signed), func(i, k int) { w.signed[i], w.signed[k] = w.signed[k], w.signed[i] })
		for _, s := range w.signed {
			accepts(t, v, s, api.OK)
			if why := w.truth(v); why != "" {
				t.Fatalf("seed %d: %s", seed, why)
			}
		}
		for i := range w.book.Len() {
			s, _ := w.book.Entry(i)
			accepts(t, v, s, api.OK)
		}
		if !v.Known(w.book.Len()) || v.Known(w.book.Len()+1) {
			t.Fatalf("seed %d: not exactly the entries of the book are known", seed)
		}
		same(t, reads(t, r, v.Bytes()), v, "d")
	}
}

// fullView returns a view that knows all entries of a full log, in some order, and the book.
func fullView(t *testing.T) (*seal.Ring, *book.Book, *view.View) {
	t.Helper()
	r := seal.New()
	b, _ := book.New(r, 3)
	for i := range 200000 {
		b.Append("6:" + strconv.Itoa(100000 + i)[:6] + ",")
	}
	v := view.New(r, 3)
	for i := range 200000 {
		// 77777 and 200000 have no common divisor, so each entry comes once.
		s, _ := b.Entry(i * 77777 % 200000)
		if e := v.Accept(s); e != api.OK {
			t.Fatalf("Accept of %v returns %d", s, e)
		}
	}
	return r, b, v
}

// P8.2 to P8.5 and P8.9 for a full log.
func TestFull(t *testing.T) {
	r, b, v := fullView(t)
	if !v.Known(200000) || v.Known(200001) {
		t.Error("not exactly the entries of the book are known")
	}
	for i := range 2000 {
		head, _ := b.Head(1<<30 - 2000 + i)
		gone, _ := b.Absent("100500", min(i, 500))
		if v.Accept(head) != api.OK || v.Accept(gone) != api.OK {
			t.Fatalf("the head %v or the absent key %v is not accepted", head, gone)
		}
	}
	is(t, v, 200000, 1<<30-1)
	lacks(t, v, "100500", 500, true)
	knows(t, v, 199999, "6:299999,", true)
	accepts(t, v, r.Sign(3, entry(199999, "1:a,")), api.ErrSplit)
	clash, _ := b.Entry(199999)
	clashes(t, v, entry(199999, "1:a,"), clash, true)
	clash, _ = b.Entry(500)
	clashes(t, v, absent(501, "100500"), clash, true)
	c := reads(t, r, v.Bytes()).Copy()
	if says(c) != says(v) || !slices.Equal(c.Claims(), v.Claims()) {
		t.Error("a view that was read says something else")
	}
}
