package gossip_test

import (
	"fmt"
	"math/rand"
	"slices"
	"testing"

	"lading/api"
	"lading/claim"
	"lading/gossip"
	"lading/seal"
	"lading/view"
)

// model is a view in the words of the document: a ring, a key, and a list of accepted claims.
type model struct {
	ring     *seal.Ring
	key      int
	accepted []api.Signed
}

// holds reports whether a signature holds for a ring.
func holds(r *seal.Ring, s api.Signed) bool {
	l := r.All()
	return s.Mark >= 0 && s.Mark < len(l) && l[s.Mark] == api.Sealed{Key: s.Key, Text: s.Text}
}

// accept appends a claim, unless its ring does not have it, an accepted one contradicts it, or it is there.
func (m *model) accept(s api.Signed) {
	c, e := claim.Read(s.Text)
	if !holds(m.ring, s) || s.Key != m.key || e != api.OK || c.Kind > api.CmAbsent || slices.Contains(m.accepted, s) {
		return
	}
	if !slices.ContainsFunc(m.accepted, func(a api.Signed) bool { return contradict(a.Text, s.Text) }) {
		m.accepted = append(slices.Clip(m.accepted), s)
	}
}

// met is what a meeting, or several of them, led to.
type met struct {
	n     int
	a, b  api.Signed
	there bool
}

// meet performs a meeting of two models; nil is a view that is not there.
func meet(a, b *model) met {
	if a == nil || b == nil || a.key != b.key {
		return met{}
	}
	for _, x := range a.accepted {
		for _, y := range b.accepted {
			if contradict(x.Text, y.Text) {
				return met{0, x, y, true}
			}
		}
	}
	ofA, ofB := a.accepted, b.accepted
	for _, s := range ofB {
		a.accept(s)
	}
	for _, s := range ofA {
		b.accept(s)
	}
	return met{}
}

// spread performs the meetings of an order.
func spread(l []*model, order [][2]int) met {
	for n, pair := range order {
		if min(pair[0], pair[1]) < 0 || max(pair[0], pair[1]) >= len(l) {
			continue
		}
		if m := meet(l[pair[0]], l[pair[1]]); m.there {
			m.n = n
			return m
		}
	}
	return met{n: len(order)}
}

// convict returns the first error that applies.
func convict(r *seal.Ring, a, b api.Signed) api.Errno {
	_, e := claim.Read(a.Text)
	_, f := claim.Read(b.Text)
	switch {
	case r == nil:
		return api.ErrArg
	case !holds(r, a) || !holds(r, b):
		return api.ErrSeal
	case a.Key != b.Key:
		return api.ErrKey
	case e != api.OK || f != api.OK:
		return api.ErrForm
	case !contradict(a.Text, b.Text):
		return api.ErrCheck
	}
	return api.OK
}

// world has two rings, and views on them with their models; some views are not there.
type world struct {
	rings  [2]*seal.Ring
	views  []*view.View
	models []*model
}

// newWorld returns a world with five views, whose rings begin with the same signatures.
func newWorld(pick func(n int) int) *world {
	w := &world{}
	w.rings[0] = seal.New()
	for range pick(4) {
		w.rings[0].Sign(pick(2), pickText(pick))
	}
	w.rings[1] = w.rings[0].Copy()
	for i := range 5 {
		w.add(w.rings[pick(6)/5], i/4*pick(2))
	}
	w.views, w.models = append(w.views, nil), append(w.models, nil)
	return w
}

// add adds an empty view.
func (w *world) add(r *seal.Ring, key int) {
	w.views = append(w.views, view.New(r, key))
	w.models = append(w.models, &model{ring: r, key: key})
}

// pickText returns a text, most often of a claim of a log with few entries.
func pickText(pick func(n int) int) string {
	switch pick(16) {
	case 0, 1, 2, 3, 4:
		return entry(pick(5), []string{"1:a,", "1:b,", "0:,", "1:a,x"}[pick(4)/(1+pick(3))])
	case 5, 6, 7, 8, 9:
		n := pick(6)
		return size(n, max(0, n+pick(3)/2-pick(3)/2))
	case 10, 11, 12, 13, 14:
		return absent(pick(5), []string{"a", "b", "", "c"}[pick(4)])
	}
	return []string{built(pick(2), "a"), ran(0, 0, []string{"a", "b"}[pick(2)]), "", "x"}[pick(4)]
}

// pickSigned returns a signature of a ring, or one that nobody made.
func (w *world) pickSigned(pick func(n int) int) api.Signed {
	r := w.rings[pick(2)]
	l := r.All()
	if pick(8) == 0 || len(l) == 0 {
		return api.Signed{Key: pick(2), Text: pickText(pick), Mark: pick(9) - 1}
	}
	n := pick(len(l))
	return api.Signed{Key: l[n].Key, Text: l[n].Text, Mark: n}
}

// step performs one call on views and their models, and returns what differs.
func (w *world) step(pick func(n int) int) string {
	i, k := pick(len(w.views)), pick(len(w.views))
	switch pick(8) {
	case 0:
		want := meet(w.models[i], w.models[k])
		a, b, there := gossip.Meet(w.views[i], w.views[k])
		return differ(met{0, a, b, there}, want) + w.differs()
	case 1:
		return w.spread(pick)
	case 2:
		r, a, b := w.rings[pick(2)], w.pickSigned(pick), w.pickSigned(pick)
		if pick(16) == 0 {
			r = nil
		}
		if e, want := gossip.Convict(r, a, b), convict(r, a, b); e != want {
			return fmt.Sprintf("Convict of %v and %v returns %d, not %d", a, b, e, want)
		}
		return w.differs()
	case 3:
		if w.views[i] != nil {
			m := *w.models[i]
			w.views[k], w.models[k] = w.views[i].Copy(), &m
		}
		return w.differs()
	}
	if w.views[i] == nil {
		return ""
	}
	s := w.models[i].ring.Sign(w.models[i].key, pickText(pick))
	w.models[i].accept(s)
	w.views[i].Accept(s)
	return w.differs()
}

// spread lets the views meet in some order.
func (w *world) spread(pick func(n int) int) string {
	var order [][2]int
	for range pick(10) {
		order = append(order, [2]int{pick(len(w.views)+2) - 1, pick(len(w.views)+2) - 1})
	}
	want := spread(w.models, order)
	n, a, b, there := gossip.Spread(w.views, order)
	return differ(met{n, a, b, there}, want) + w.differs()
}

// differ returns what differs between two results.
func differ(got, want met) string {
	if got != want {
		return fmt.Sprintf("the result is %v, not %v", got, want)
	}
	return ""
}

// differs returns what differs between any view and its model.
func (w *world) differs() string {
	for i, v := range w.views {
		if v == nil {
			continue
		}
		if m := w.models[i]; v.Key() != m.key || !slices.Equal(v.Claims(), m.accepted) {
			return fmt.Sprintf("the view %d has accepted %v, not %v", i, v.Claims(), m.accepted)
		}
	}
	return ""
}

// P9.1 to P9.4 for all lists of up to two of the claims that matter, accepted by each of two views.
func TestAllSmallMeetings(t *testing.T) {
	few := []string{entry(0, "1:a,"), entry(0, "1:b,"), entry(1, "1:a,"), size(1, 1), size(2, 1), size(1, 2), absent(1, "a"), absent(2, "a"), absent(2, "b")}
	r := seal.New()
	var lists [][]string
	for _, a := range few {
		lists = append(lists, []string{a})
		for _, b := range few {
			if a != b && !contradict(a, b) {
				lists = append(lists, []string{a, b})
			}
		}
	}
	var w world
	for _, l := range append(lists, nil) {
		w.add(r, 3)
		for _, text := range l {
			s := r.Sign(3, text)
			w.views[len(w.views)-1].Accept(s)
			w.models[len(w.models)-1].accept(s)
		}
	}
	for i, v := range w.views {
		for k, u := range w.views {
			c := &world{views: []*view.View{v.Copy(), u.Copy()}, models: []*model{{r, 3, w.models[i].accepted}, {r, 3, w.models[k].accepted}}}
			want := meet(c.models[0], c.models[1])
			a, b, there := gossip.Meet(c.views[0], c.views[1])
			if why := differ(met{0, a, b, there}, want) + c.differs(); why != "" {
				t.Fatalf("with %v and %v: %s", v.Claims(), u.Claims(), why)
			}
		}
	}
	if why := w.differs(); why != "" {
		t.Fatal(why)
	}
}

// P9.1 to P9.4 for any calls with several views and two rings.
func TestAnyCalls(t *testing.T) {
	for seed := range int64(1000) {
		pick := rand.New(rand.NewSource(seed)).Intn
		w := newWorld(pick)
		for i := range 60 {
			if why := w.step(pick); why != "" {
				t.Fatalf("seed %d, call %d: %s", seed, i, why)
			}
		}
	}
}

// P9.1 to P9.4, and P1, for calls that a fuzzer chooses: each byte is a choice.
func FuzzCalls(f *testing.F) {
	f.Add([]byte("some views that meet each other"))
	f.Add([]byte{0, 0, 0, 0, 0, 0, 4, 1, 7, 1, 2, 3, 4, 5, 6, 7, 8, 9, 0, 2, 4, 8, 16})
	f.Add([]byte{3, 9, 27, 81, 2, 4, 8, 1, 0, 5})
	f.Fuzz(func(t *testing.T, b []byte) {
		pick := func(n int) int {
			if len(b) == 0 {
				return 0
			}
			k := int(b[0]) % n
			b = b[1:]
			return k
		}
		w := newWorld(pick)
		for len(b) > 0 {
			if why := w.step(pick); why != "" {
				t.Fatal(why)
			}
		}
	})
}

// P9.2, P9.7, and P1, for any two signatures of which each was made, if there is a key, and its mark is as far off as the fuzzer says.
func FuzzConvict(f *testing.F) {
	f.Add(3, size(2, 7), 0, 3, size(1, 8), 0)
	f.Add(3, entry(0, "1:a,"), 0, 3, absent(1, "a"), 0)
	f.Add(4, built(1, "a"), 0, 3, built(2, "a"), 0)
	f.Add(3, ran(1, 1, "a"), 1, 3, "x", -1)
	f.Add(-1, "", 0, 200, "1;2;7;0:,,", 0)
	f.Fuzz(func(t *testing.T, key int, text string, off, otherKey int, other string, otherOff int) {
		r := seal.New()
		a, b := r.Sign(key, text), r.Sign(otherKey, other)
		a.Mark += off
		b.Mark += otherOff
		convicts(t, r, a, b, convict(r, a, b))
		convicts(t, nil, a, b, api.ErrArg)
	})
}
