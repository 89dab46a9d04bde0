package view_test

import (
	"fmt"
	"math/rand"
	"slices"
	"testing"

	"lading/api"
	"lading/claim"
	"lading/seal"
	"lading/view"
)

// model is a view in the words of the document: a ring, a key, and a list of accepted claims.
type model struct {
	ring     *seal.Ring
	key      int
	accepted []api.Signed
}

// holds reports whether a signature holds for the ring.
func (m *model) holds(s api.Signed) bool {
	l := m.ring.All()
	return s.Mark >= 0 && s.Mark < len(l) && l[s.Mark] == api.Sealed{Key: s.Key, Text: s.Text}
}

func (m *model) accept(s api.Signed) api.Errno {
	c, e := claim.Read(s.Text)
	switch {
	case !m.holds(s):
		return api.ErrSeal
	case s.Key != m.key:
		return api.ErrKey
	case e != api.OK, c.Kind == api.CmBuilt, c.Kind == api.CmRan:
		return api.ErrForm
	}
	if _, there := m.clash(s.Text); there {
		return api.ErrSplit
	}
	if !slices.Contains(m.accepted, s) {
		m.accepted = append(slices.Clip(m.accepted), s)
	}
	return api.OK
}

func (m *model) clash(text string) (api.Signed, bool) {
	for _, s := range m.accepted {
		if contradict(text, s.Text) {
			return s, true
		}
	}
	return api.Signed{}, false
}

// claims returns the accepted claims of a kind.
func (m *model) claims(kind int) []api.Claim {
	var l []api.Claim
	for _, s := range m.accepted {
		if c, _ := claim.Read(s.Text); c.Kind == kind {
			l = append(l, c)
		}
	}
	return l
}

func (m *model) text(i int) (string, bool) {
	for _, c := range m.claims(api.CmEntry) {
		if c.N == i {
			return c.Text, true
		}
	}
	return "", false
}

func (m *model) size() (int, int) {
	n, time := 0, -1
	for _, c := range m.claims(api.CmSize) {
		if c.Time > time {
			n, time = c.N, c.Time
		}
	}
	return n, time
}

func (m *model) age(now int) int {
	_, time := m.size()
	if time == -1 || now < time {
		return -1
	}
	return now - time
}

func (m *model) absent(key string) (int, bool) {
	n, there := 0, false
	for _, c := range m.claims(api.CmAbsent) {
		if c.Text == key {
			n, there = max(n, c.N), true
		}
	}
	return n, there
}

func (m *model) known(n int) bool {
	for i := 0; i < n; i++ {
		if _, there := m.text(i); !there {
			return false
		}
	}
	return true
}

func (m *model) bytes() string {
	s := fmt.Sprintf("%d;%d;", m.key, len(m.accepted))
	for _, c := range m.accepted {
		s += fmt.Sprintf("%d;%d:%s,", c.Mark, len(c.Text), c.Text)
	}
	return s
}

// pair is a view with its model.
type pair struct {
	v *view.View
	m *model
}

func newPair(r *seal.Ring, key int) pair { return pair{view.New(r, key), &model{ring: r, key: key}} }

// copy copies a view and its model.
func (p pair) copy() pair {
	m := *p.m
	return pair{p.v.Copy(), &m}
}

// read reads the bytes of a view into a new one.
func (p pair) read() (pair, string) {
	v, e := view.Read(p.m.ring, p.m.bytes())
	if e != api.OK {
		return p, fmt.Sprintf("Read of %q returns %d", p.m.bytes(), e)
	}
	m := *p.m
	return pair{v, &m}, ""
}

// accept lets a view accept a claim, and returns what differs.
func (p pair) accept(s api.Signed) string {
	if e, want := p.v.Accept(s), p.m.accept(s); e != want {
		return fmt.Sprintf("Accept of %v returns %d, not %d", s, e, want)
	}
	return p.differs()
}

// clash returns what differs of the clash of a text.
func (p pair) clash(text string) string {
	s, there := p.v.Clash(api.Signed{Key: len(text), Text: text, Mark: -len(text)})
	if want, ok := p.m.clash(text); s != want || there != ok {
		return fmt.Sprintf("Clash of %q returns %v, %v, not %v, %v", text, s, there, want, ok)
	}
	return ""
}

// differs returns what differs between a view and its model.
func (p pair) differs() string {
	v, m := p.v, p.m
	if v.Key() != m.key || !slices.Equal(v.Claims(), m.accepted) || v.Bytes() != m.bytes() {
		return fmt.Sprintf("the view has the key %d, not %d, the claims %v, not %v, the bytes %q", v.Key(), m.key, v.Claims(), m.accepted, v.Bytes())
	}
	n, time := v.Size()
	if wantN, wantTime := m.size(); n != wantN || time != wantTime {
		return fmt.Sprintf("Size returns %d, %d, not %d, %d", n, time, wantN, wantTime)
	}
	for i := -1; i < 6; i++ {
		if v.Age(i) != m.age(i) || v.Known(i) != m.known(i) {
			return fmt.Sprintf("Age(%d) and Known(%d) return %d, %v, not %d, %v", i, i, v.Age(i), v.Known(i), m.age(i), m.known(i))
		}
		text, there := v.Text(i)
		if want, ok := m.text(i); text != want || there != ok {
			return fmt.Sprintf("Text(%d) returns %q, %v, not %q, %v", i, text, there, want, ok)
		}
	}
	for _, key := range modelKeys() {
		n, there := v.Absent(key)
		if want, ok := m.absent(key); n != want || there != ok {
			return fmt.Sprintf("Absent(%q) returns %d, %v, not %d, %v", key, n, there, want, ok)
		}
	}
	return ""
}

func modelKeys() []string { return []string{"a", "b", "", "1:a,"} }

// few are the claims that matter of a log with few entries.
func few() []string {
	return []string{
		entry(0, "1:a,"), entry(0, "1:b,"), entry(1, "1:a,"), entry(1, "1:b,x"), size(0, 1), size(1, 1), size(1, 0), size(1, 2), size(2, 2), absent(0, "a"), absent(1, "a"), absent(2, "a"), absent(2, "b"), built(0, "a"),
	}
}

// P8.1 to P8.8 for all sequences of up to four of the claims that matter, and for all of these the clash at the end; a copy before the last one must not notice it.
func TestAllShortCalls(t *testing.T) {
	r := seal.New()
	var signed []api.Signed
	for _, text := range few() {
		signed = append(signed, r.Sign(3, text))
	}
	var seq []string
	var check func(p pair)
	check = func(p pair) {
		for _, s := range signed {
			if why := p.clash(s.Text); why != "" {
				t.Fatalf("after %q: %s", seq, why)
			}
		}
		if len(seq) == 4 {
			return
		}
		for _, s := range signed {
			seq = append(seq, s.Text)
			c := p.copy()
			if why := c.accept(s) + p.differs(); why != "" {
				t.Fatalf("after %q: %s", seq, why)
			}
			check(c)
			seq = seq[:len(seq)-1]
		}
	}
	check(newPair(r, 3))
}

// world has some views on few rings.
type world struct{ pairs []pair }

// pickClaim returns the text of a claim, often one of a log with few entries.
func pickClaim(pick func(n int) int) string {
	entries, keys := []string{"1:a,", "1:b,", "0:,", "4:1:a,,", "1:a,x"}, modelKeys()
	switch pick(12) {
	case 0, 1, 2:
		return entry(pick(5), entries[pick(5)])
	case 3, 4, 5:
		n := pick(6)
		return size(n, max(0, n+pick(2)-pick(2)))
	case 6, 7, 8:
		return absent(pick(5), keys[pick(4)])
	case 9:
		return size(pick(6), pick(6))
	}
	l := []string{built(pick(3), "a"), ran(0, pick(3), "a"), "", "x", "0;0;0;1:a,", size(0, 1<<30+1), entry(200000, "1:a,"), absent(200001, "a")}
	return l[pick(len(l))]
}

// step performs one call on a view and its model, and returns what differs.
func (w *world) step(pick func(n int) int) string {
	p := w.pairs[pick(len(w.pairs))]
	text := pickClaim(pick)
	switch pick(12) {
	case 0:
		return w.accept(p, api.Signed{Key: p.m.key + pick(2), Text: text, Mark: pick(8) - 1})
	case 1:
		return w.accept(p, p.m.ring.Sign(pick(4), text))
	case 2:
		w.keep(p.copy(), pick)
		return ""
	case 3:
		c, why := p.read()
		w.keep(c, pick)
		return why
	case 4:
		return p.clash(text)
	case 5:
		w.keep(newPair(p.m.ring, pick(4)), pick)
		return ""
	case 6:
		q := w.pairs[pick(len(w.pairs))].m.accepted
		if len(q) == 0 {
			return ""
		}
		return w.accept(p, q[pick(len(q))])
	}
	return w.accept(p, p.m.ring.Sign(p.m.key, text))
}

// accept lets a view accept a claim, and returns what differs of any view.
func (w *world) accept(p pair, s api.Signed) string {
	why := p.clash(s.Text) + p.accept(s)
	for _, q := range w.pairs {
		why += q.differs()
	}
	return why
}

// keep adds a view, or replaces one.
func (w *world) keep(p pair, pick func(n int) int) {
	if len(w.pairs) < 4 {
		w.pairs = append(w.pairs, p)
		return
	}
	w.pairs[pick(4)] = p
}

// P8.1 to P8.8 for any calls of several views with two rings.
func TestAnyCalls(t *testing.T) {
	for seed := range int64(300) {
		pick := rand.New(rand.NewSource(seed)).Intn
		w := &world{[]pair{newPair(seal.New(), pick(4)), newPair(seal.New(), pick(4))}}
		for i := range 80 {
			if why := w.step(pick); why != "" {
				t.Fatalf("seed %d, call %d: %s", seed, i, why)
			}
		}
	}
}

// P8.1 to P8.8, and P1, for calls that a fuzzer chooses: each byte is a choice, and the text may be signed, with any number as a mark.
func FuzzCalls(f *testing.F) {
	f.Add([]byte("accepting, copying and reading"), "0;0;0;4:1:a,,", 0)
	f.Add([]byte{0, 0, 0, 1, 2, 3, 4, 5, 6, 7, 8, 9, 0, 2, 4, 8, 16}, "1;3;3;0:,", -1)
	f.Add([]byte{3, 9, 27, 81, 2, 4, 8, 1, 0, 5}, "2;3;0;1:a,", 1<<40)
	f.Fuzz(func(t *testing.T, b []byte, text string, n int) {
		pick := func(n int) int {
			if len(b) == 0 {
				return 0
			}
			k := int(b[0]) % n
			b = b[1:]
			return k
		}
		w := &world{[]pair{newPair(seal.New(), 3)}}
		for len(b) > 0 {
			p := w.pairs[pick(len(w.pairs))]
			why := ""
			switch pick(6) {
			case 0:
				why = w.accept(p, p.m.ring.Sign(p.m.key, text))
			case 1:
				why = w.accept(p, api.Signed{Key: p.m.key, Text: text, Mark: n})
			case 2:
				// Known of a great number, and the others of any number, must end.
				p.v.Known(n)
				p.v.Text(n)
				p.v.Age(n)
				p.v.Absent(text)
				why = p.differs()
			default:
				why = w.step(pick)
			}
			if why != "" {
				t.Fatal(why)
			}
		}
	})
}

// P8.5, and P1, for any string: it is the bytes of the view that is read, or an error.
func FuzzRead(f *testing.F) {
	r, l := signedRing()
	for _, s := range append(malformed(), "3;0;", "3;2;"+l[0]+l[1], "3;2;"+l[1]+l[2], "3;2;"+l[0]+l[0], "3;1;"+l[4], "4;1;"+l[7]) {
		f.Add(s)
	}
	f.Fuzz(func(t *testing.T, s string) {
		v, e := view.Read(r, s)
		if (v == nil) != (e != api.OK) || v != nil && v.Bytes() != s {
			t.Fatalf("Read of %q returns a view: %v, %d", s, v != nil, e)
		}
		if v == nil {
			return
		}
		m := &model{ring: r, key: v.Key()}
		for _, c := range v.Claims() {
			if e := m.accept(c); e != api.OK {
				t.Fatalf("Read of %q accepts %v, which is %d", s, c, e)
			}
		}
		if why := (pair{v, m}).differs(); why != "" {
			t.Fatal(why)
		}
	})
}
