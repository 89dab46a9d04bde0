package seal_test

import (
	"fmt"
	"math/rand"
	"slices"
	"testing"

	"lading/api"
	"lading/seal"
)

// model is a ring in the words of the document: a list of entries, which is searched.
type model struct{ l []api.Sealed }

// openModel does what Open must do.
func openModel(l []api.Sealed) (*model, api.Errno) {
	for _, e := range l {
		if e.Key < 0 || e.Key > 199 {
			return nil, api.ErrArg
		}
	}
	for i := range l {
		for k := range i {
			if l[i] == l[k] {
				return nil, api.ErrTwice
			}
		}
	}
	return &model{append([]api.Sealed{}, l...)}, api.OK
}

func (m *model) sign(key int, text string) api.Signed {
	if key < 0 || key > 199 {
		return api.Signed{}
	}
	for i, e := range m.l {
		if e.Key == key && e.Text == text {
			return api.Signed{Key: key, Text: text, Mark: i}
		}
	}
	m.l = append(m.l, api.Sealed{Key: key, Text: text})
	return api.Signed{Key: key, Text: text, Mark: len(m.l) - 1}
}

func (m *model) valid(s api.Signed) bool {
	for i, e := range m.l {
		if i == s.Mark && e.Key == s.Key && e.Text == s.Text {
			return true
		}
	}
	return false
}

// pair is a ring with its model.
type pair struct {
	r *seal.Ring
	m *model
}

// world has some rings, which must not know of each other, and the signatures that were returned.
type world struct {
	rings []pair
	given []api.Signed
}

func newWorld() *world { return &world{rings: []pair{{seal.New(), &model{}}}} }

// differs returns what differs between the rings and their models.
func (w *world) differs() string {
	for i, p := range w.rings {
		if l := p.r.All(); !slices.Equal(l, p.m.l) {
			return fmt.Sprintf("the ring %d has %.300v, not %.300v", i, l, p.m.l)
		}
		for _, s := range w.given {
			if got, want := p.r.Valid(s), p.m.valid(s); got != want {
				return fmt.Sprintf("for the ring %d, Valid of %.60v is %v", i, s, got)
			}
		}
	}
	return ""
}

// someEntry returns an entry, of which there are few; its key is sometimes none.
func someEntry(pick func(n int) int) api.Sealed {
	keys, texts := []int{0, 1, 2, 199, 200, -1}, []string{"", "a", "b", "aa", "\xff"}
	k := pick(30)
	if k >= len(keys) {
		k %= 4
	}
	return api.Sealed{Key: keys[k], Text: texts[pick(len(texts))]}
}

// step performs one call on a ring and its model, and returns what differs.
func (w *world) step(pick func(n int) int) string {
	p := w.rings[pick(len(w.rings))]
	switch pick(8) {
	case 0:
		w.keep(pair{p.r.Copy(), &model{slices.Clone(p.m.l)}}, pick)
	case 1:
		return w.open(p, pick)
	case 2:
		w.given = append(w.given, api.Signed{Key: pick(202) - 1, Text: "a", Mark: pick(5) - 2})
	default:
		e := someEntry(pick)
		s := p.r.Sign(e.Key, e.Text)
		if want := p.m.sign(e.Key, e.Text); s != want {
			return fmt.Sprintf("Sign of %v returns %v, not %v", e, s, want)
		}
		w.given = append(w.given, s)
	}
	return w.differs()
}

// open opens the entries of a ring with another one, which is there already, is none, or is new.
func (w *world) open(p pair, pick func(n int) int) string {
	l := p.r.All()
	if pick(2) == 0 {
		l = slices.Insert(l, pick(len(l)+1), someEntry(pick))
	}
	if len(l) > 0 && pick(4) == 0 {
		l = slices.Insert(l, pick(len(l)+1), l[pick(len(l))])
	}
	r, e := seal.Open(l)
	m, want := openModel(l)
	if e != want || (r == nil) != (want != api.OK) {
		return fmt.Sprintf("Open of %v returns %d, not %d", l, e, want)
	}
	if r != nil {
		w.keep(pair{r, m}, pick)
	}
	overwrite(l)
	return w.differs()
}

// keep adds a ring, or replaces one.
func (w *world) keep(p pair, pick func(n int) int) {
	if len(w.rings) < 4 {
		w.rings = append(w.rings, p)
		return
	}
	w.rings[pick(4)] = p
}

// P5.1 to P5.6 for any calls.
func TestAnyCalls(t *testing.T) {
	for seed := range int64(300) {
		pick := rand.New(rand.NewSource(seed)).Intn
		w := newWorld()
		for i := range 60 {
			if why := w.step(pick); why != "" {
				t.Fatalf("seed %d, call %d: %s", seed, i, why)
			}
		}
	}
}

// P5.1 for all lists with up to four of four entries, one of which has no key.
func TestAllShortLists(t *testing.T) {
	few := []api.Sealed{{Key: 0, Text: "a"}, {Key: 199, Text: "a"}, {Key: 0}, {Key: 200, Text: "a"}}
	lists := [][]api.Sealed{nil}
	for i := 0; i < len(lists); i++ {
		l := lists[i]
		r, e := seal.Open(l)
		m, want := openModel(l)
		if e != want || (r == nil) != (m == nil) {
			t.Fatalf("Open of %v returns %d, not %d", l, e, want)
		}
		for _, x := range few {
			if r != nil {
				if s, want := r.Copy().Sign(x.Key, x.Text), (&model{slices.Clone(m.l)}).sign(x.Key, x.Text); s != want {
					t.Fatalf("Sign of %v with %v returns %v, not %v", x, l, s, want)
				}
			}
			if len(l) < 4 {
				lists = append(lists, with(l, x))
			}
		}
		if r != nil {
			has(t, r, l...)
		}
	}
	if len(lists) != 1+4+16+64+256 {
		t.Errorf("%d lists", len(lists))
	}
}

// P5.1 to P5.6, and P1, for calls that a fuzzer chooses: each byte is a choice.
func FuzzCalls(f *testing.F) {
	f.Add([]byte("signing, opening and copying"))
	f.Add([]byte{0, 3, 0, 1, 0, 4, 1, 1, 0, 0, 1, 1, 0, 2, 1})
	f.Fuzz(func(t *testing.T, b []byte) {
		pick := func(n int) int {
			if len(b) == 0 {
				return 0
			}
			k := int(b[0]) % n
			b = b[1:]
			return k
		}
		w := newWorld()
		for i := 0; len(b) > 0 && i < 100; i++ {
			if why := w.step(pick); why != "" {
				t.Fatalf("call %d: %s", i, why)
			}
		}
	})
}

// P5.5 and P5.6 for any signature that somebody offers.
func FuzzValid(f *testing.F) {
	f.Add(3, "a", 4, "a", 3, "a", 0)
	f.Add(200, "a", -1, "", 0, "", 0)
	f.Fuzz(func(t *testing.T, key int, text string, key2 int, text2 string, key3 int, text3 string, mark int) {
		r, m := seal.New(), &model{}
		for range 2 {
			for _, e := range []api.Sealed{{Key: key, Text: text}, {Key: key2, Text: text2}} {
				if s, want := r.Sign(e.Key, e.Text), m.sign(e.Key, e.Text); s != want {
					t.Fatalf("Sign of %v returns %v, not %v", e, s, want)
				}
			}
		}
		if s := (api.Signed{Key: key3, Text: text3, Mark: mark}); r.Valid(s) != m.valid(s) {
			t.Fatalf("Valid of %v is %v", s, r.Valid(s))
		}
		has(t, r, m.l...)
	})
}
