package book_test

import (
	"fmt"
	"math/rand"
	"regexp"
	"slices"
	"strconv"
	"testing"

	"lading/api"
	"lading/book"
	"lading/claim"
	"lading/seal"
)

// list is a ring in the words of the document: all that was signed.
type list struct{ l []api.Sealed }

// model is a book in the words of the document.
type model struct {
	ring    *list
	key     int
	entries []string
	told    bool
	n, time int // of the last head, if it was told
}

var front = regexp.MustCompile(`^(0|[1-9][0-9]*):`)

// keyModel reads the key of a text with a regular expression.
func keyModel(text string) (string, bool) {
	m := front.FindStringSubmatch(text)
	if m == nil {
		return "", false
	}
	n, err := strconv.Atoi(m[1])
	rest := text[len(m[0]):]
	if err != nil || n >= len(rest) || rest[n] != ',' {
		return "", false
	}
	return rest[:n], true
}

// sign signs the claim with these parts.
func (m *model) sign(kind, n, time int, text string) answer {
	s := api.Sealed{Key: m.key, Text: fmt.Sprintf("%d;%d;%d;%d:%s,", kind, n, time, len(text), text)}
	mark := slices.Index(m.ring.l, s)
	if mark < 0 {
		mark = len(m.ring.l)
		m.ring.l = append(m.ring.l, s)
	}
	return answer{api.Signed{Key: s.Key, Text: s.Text, Mark: mark}, api.OK}
}

func (m *model) append(text string) (int, api.Errno) {
	_, has := keyModel(text)
	switch {
	case !has:
		return 0, api.ErrForm
	case len(text) > 20000:
		return 0, api.ErrRange
	}
	m.entries = append(slices.Clip(m.entries), text)
	return len(m.entries) - 1, api.OK
}

func (m *model) entry(i int) answer {
	if i < 0 || i >= len(m.entries) {
		return answer{e: api.ErrNone}
	}
	return m.sign(0, i, 0, m.entries[i])
}

func (m *model) head(now int) answer {
	n := len(m.entries)
	switch {
	case now < 0, now > 1073741824:
		return answer{e: api.ErrArg}
	case m.told && m.time > now, m.told && m.time == now && m.n != n:
		return answer{e: api.ErrState}
	}
	m.told, m.n, m.time = true, n, now
	return m.sign(1, n, now, "")
}

func (m *model) absent(key string, n int) answer {
	if n < 0 || n > len(m.entries) || len(key) > 20000 {
		return answer{e: api.ErrArg}
	}
	for _, text := range m.entries[:n] {
		if k, _ := keyModel(text); k == key {
			return answer{e: api.ErrTwice}
		}
	}
	return m.sign(2, n, 0, key)
}

// pair is a book with its model, and their rings.
type pair struct {
	b *book.Book
	m *model
	r *seal.Ring
}

func newPair(key int) pair {
	r := seal.New()
	b, _ := book.New(r, key)
	return pair{b, &model{ring: &list{}, key: key}, r}
}

// copy copies a book and its model to another ring and its model.
func (p pair) copy(r *seal.Ring, l *list) pair {
	m := *p.m
	m.ring = l
	return pair{p.b.Copy(r), &m, r}
}

// differs returns what differs between a book with its ring and its model.
func (p pair) differs() string {
	if p.b.Len() != len(p.m.entries) {
		return fmt.Sprintf("the book has %d entries, not %d", p.b.Len(), len(p.m.entries))
	}
	for i := -1; i <= len(p.m.entries); i++ {
		want, there := "", i >= 0 && i < len(p.m.entries)
		if there {
			want = p.m.entries[i]
		}
		if s, ok := p.b.Text(i); s != want || ok != there {
			return fmt.Sprintf("Text(%d) returns %.60q, %v, not %.60q", i, s, ok, want)
		}
	}
	if l := p.r.All(); !slices.Equal(l, p.m.ring.l) {
		return fmt.Sprintf("the ring has %.300v, not %.300v", l, p.m.ring.l)
	}
	return ""
}

// same returns what differs between an answer and that of the model; an answer that signs must hold, be a claim, and be given again.
func (p pair) same(what string, got, want answer) string {
	if got != want {
		return fmt.Sprintf("%s returns %.200v, not %.200v", what, got, want)
	}
	if got.e != api.OK {
		return p.differs()
	}
	if _, e := claim.Read(got.s.Text); !p.r.Valid(got.s) || e != api.OK {
		return fmt.Sprintf("%s returns %.200v, which does not hold, or is no claim", what, got)
	}
	return p.differs()
}

// append, entry, head and absent perform a call, and return what differs.
func (p pair) append(text string) string {
	n, e := p.b.Append(text)
	if wantN, want := p.m.append(text); n != wantN || e != want {
		return fmt.Sprintf("Append of %.60q returns %d, %d, not %d, %d", text, n, e, wantN, want)
	}
	return p.differs()
}

func (p pair) entry(i int) string {
	return p.same(fmt.Sprintf("Entry(%d)", i), of(p.b.Entry(i)), p.m.entry(i))
}

func (p pair) head(now int) string {
	return p.same(fmt.Sprintf("Head(%d)", now), of(p.b.Head(now)), p.m.head(now))
}

func (p pair) absent(key string, n int) string {
	return p.same(fmt.Sprintf("Absent(%.60q, %d)", key, n), of(p.b.Absent(key, n)), p.m.absent(key, n))
}

// contradiction returns two claims of one key in a ring that contradict each other.
func contradiction(r *seal.Ring) string {
	var claims []api.Claim
	for _, s := range r.All() {
		c, _ := claim.Read(s.Text)
		claims = append(claims, c)
	}
	for i, a := range claims {
		for _, b := range claims[:i] {
			if claim.Contradict(a, b) || claim.Contradict(b, a) {
				return fmt.Sprintf("%v and %v are both signed", b, a)
			}
		}
	}
	return ""
}

// few are the calls that matter of a book with few entries.
func few() []func(p pair) string {
	return []func(p pair) string{
		func(p pair) string { return p.append("1:a,") },
		func(p pair) string { return p.append("1:b,x") },
		func(p pair) string { return p.append("a") },
		func(p pair) string { return p.entry(0) },
		func(p pair) string { return p.entry(1) },
		func(p pair) string { return p.head(0) },
		func(p pair) string { return p.head(1) },
		func(p pair) string { return p.absent("a", 0) },
		func(p pair) string { return p.absent("a", 1) },
		func(p pair) string { return p.absent("b", 2) },
	}
}

// P7.1 to P7.10 for all sequences of up to five of the calls that matter, without and with a copy before the last call, which must not notice it.
func TestAllShortCalls(t *testing.T) {
	calls := few()
	var seq []int
	var check func()
	run := func(p pair, k int) {
		if why := calls[k](p); why != "" {
			t.Fatalf("the calls %v: %s", seq, why)
		}
	}
	check = func() {
		p := newPair(9)
		for _, k := range seq {
			run(p, k)
		}
		if why := contradiction(p.r); why != "" {
			t.Fatalf("the calls %v: %s", seq, why)
		}
		if len(seq) == 5 {
			return
		}
		if len(seq) > 0 && len(seq) < 4 {
			checkCopy(t, p, calls)
		}
		for k := range calls {
			seq = append(seq, k)
			check()
			seq = seq[:len(seq)-1]
		}
	}
	check()
}

// checkCopy performs each call on a copy, and requires that the book does not notice.
func checkCopy(t *testing.T, p pair, calls []func(p pair) string) {
	t.Helper()
	for k, call := range calls {
		c := p.copy(seal.New(), &list{})
		if why := call(c); why != "" {
			t.Fatalf("the call %d of a copy: %s", k, why)
		}
		if why := p.differs(); why != "" {
			t.Fatalf("the call %d of a copy: of the book, %s", k, why)
		}
	}
}

// world has some books, copies among them, and all their rings.
type world struct{ pairs []pair }

// pickText returns a text, often an entry; there are few keys.
func pickText(pick func(n int) int) string {
	l := []string{"1:a,", "1:b,", "0:,", "1:a,x", "2:ab,", "4:1:a,,", "1:c,1:a,", "", "a", "1:a", "2:a,", "01:a,"}
	if pick(5) > 0 {
		return l[pick(7)]
	}
	return l[pick(len(l))]
}

// pickKey returns a key that an entry may have.
func pickKey(pick func(n int) int) string {
	l := []string{"a", "b", "", "ab", "1:a,", "c", "x"}
	return l[pick(len(l))]
}

// step performs one call on a book and its model, and returns what differs.
func (w *world) step(pick func(n int) int) string {
	p := w.pairs[pick(len(w.pairs))]
	n := p.b.Len()
	switch pick(10) {
	case 0, 1, 2:
		return p.append(pickText(pick))
	case 3:
		return p.entry(pick(n+3) - 1)
	case 4, 5:
		return p.head(w.moment(p, pick))
	case 6, 7, 8:
		return p.absent(pickKey(pick), pick(n+3)-1)
	}
	w.keep(w.copyOf(p, pick), pick)
	return ""
}

// moment returns a moment near the last head, or a number that is none.
func (w *world) moment(p pair, pick func(n int) int) int {
	switch pick(20) {
	case 0:
		return -1
	case 1:
		return 1<<30 + pick(3) - 1
	}
	return p.m.time + pick(4) - 1
}

// copyOf copies a book to a new ring, to the ring of another book, or to a copy of its ring.
func (w *world) copyOf(p pair, pick func(n int) int) pair {
	switch pick(3) {
	case 0:
		q := w.pairs[pick(len(w.pairs))]
		return p.copy(q.r, q.m.ring)
	case 1:
		return p.copy(p.r.Copy(), &list{slices.Clone(p.m.ring.l)})
	}
	return p.copy(seal.New(), &list{})
}

// keep adds a book, or replaces one.
func (w *world) keep(p pair, pick func(n int) int) {
	if len(w.pairs) < 4 {
		w.pairs = append(w.pairs, p)
		return
	}
	w.pairs[pick(4)] = p
}

// differs returns what differs between the books and their models.
func (w *world) differs() string {
	for i, p := range w.pairs {
		if why := p.differs(); why != "" {
			return fmt.Sprintf("of the book %d, %s", i, why)
		}
	}
	return ""
}

// P7.1 to P7.7, P7.9 and P7.10 for any calls of several books.
func TestAnyCalls(t *testing.T) {
	for seed := range int64(300) {
		pick := rand.New(rand.NewSource(seed)).Intn
		w := &world{[]pair{newPair(pick(200))}}
		for i := range 80 {
			why := w.step(pick)
			if why == "" {
				why = w.differs()
			}
			if why != "" {
				t.Fatalf("seed %d, call %d: %s", seed, i, why)
			}
		}
	}
}

// P7.8 to P7.10 for any calls of one book, which nobody else signs for: no two claims contradict each other, and each one is signed again with its mark.
func TestAnyClaims(t *testing.T) {
	for seed := range int64(100) {
		pick := rand.New(rand.NewSource(seed)).Intn
		p := newPair(9)
		w := &world{[]pair{p}}
		for i := range 120 {
			w.pairs = []pair{p}
			if why := w.step(pick); why != "" {
				t.Fatalf("seed %d, call %d: %s", seed, i, why)
			}
		}
		if why := contradiction(p.r); why != "" {
			t.Fatalf("seed %d: %s", seed, why)
		}
		signedAgain(t, p)
	}
}

// signedAgain requires that all that was signed about entries and keys is signed again with its mark, and so is the last head.
func signedAgain(t *testing.T, p pair) {
	t.Helper()
	last := -1
	for mark, s := range p.r.All() {
		c, _ := claim.Read(s.Text)
		var a answer
		switch c.Kind {
		case api.CmEntry:
			a = of(p.b.Entry(c.N))
		case api.CmAbsent:
			a = of(p.b.Absent(c.Text, c.N))
		default:
			last = mark
			continue
		}
		signs(t, p.r, a, s.Text, mark)
	}
	if last < 0 || p.m.n != p.b.Len() {
		return
	}
	signs(t, p.r, of(p.b.Head(p.m.time)), p.r.All()[last].Text, last)
}

// P7.1 to P7.10, and P1, for calls that a fuzzer chooses: each byte is a choice, and each text is an entry or a key of one.
func FuzzCalls(f *testing.F) {
	f.Add([]byte("appending, signing and copying"), "1:a,", "a", 0)
	f.Add([]byte{0, 0, 0, 1, 2, 3, 4, 5, 6, 7, 8, 9, 0, 2, 4, 8, 16}, "3:1:a,", "1:a", 1<<30)
	f.Fuzz(func(t *testing.T, b []byte, text, key string, n int) {
		pick := func(n int) int {
			if len(b) == 0 {
				return 0
			}
			k := int(b[0]) % n
			b = b[1:]
			return k
		}
		w := &world{[]pair{newPair(9)}}
		for len(b) > 0 {
			p := w.pairs[pick(len(w.pairs))]
			why := ""
			switch pick(8) {
			case 0:
				why = p.append(text)
			case 1:
				why = p.absent(key, n)
			case 2:
				why = p.absent(key, p.b.Len())
			case 3:
				why = p.entry(n) + p.head(n)
			default:
				why = w.step(pick)
			}
			if why += w.differs(); why != "" {
				t.Fatal(why)
			}
		}
	})
}
