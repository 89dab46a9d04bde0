package book_test

import (
	"math"
	"slices"
	"strconv"
	"strings"
	"testing"

	"lading/api"
	"lading/book"
	"lading/claim"
	"lading/seal"
)

// newBook returns a new ring, and a book of the key 9 with these entries.
func newBook(t *testing.T, texts ...string) (*seal.Ring, *book.Book) {
	t.Helper()
	r := seal.New()
	b, e := book.New(r, 9)
	if b == nil || e != api.OK {
		t.Fatalf("New returns %d", e)
	}
	for i, text := range texts {
		appends(t, b, text, i)
	}
	return r, b
}

// appends requires that Append returns this number.
func appends(t *testing.T, b *book.Book, text string, want int) {
	t.Helper()
	if n, e := b.Append(text); n != want || e != api.OK {
		t.Fatalf("Append of %.60q returns %d, %d, not %d", text, n, e, want)
	}
}

// appendFails requires that Append returns an error, and changes nothing.
func appendFails(t *testing.T, b *book.Book, text string, want api.Errno) {
	t.Helper()
	before := b.Len()
	if n, e := b.Append(text); n != 0 || e != want || b.Len() != before {
		t.Errorf("Append of %.60q returns %d, %d, not %d, and the length changes from %d to %d", text, n, e, want, before, b.Len())
	}
}

// has requires that a book has these entries, and no others.
func has(t *testing.T, b *book.Book, want ...string) {
	t.Helper()
	if b.Len() != len(want) {
		t.Fatalf("the book has %d entries, not %d", b.Len(), len(want))
	}
	for i, text := range want {
		if s, ok := b.Text(i); s != text || !ok {
			t.Fatalf("Text(%d) returns %.60q, %v, not %.60q", i, s, ok, text)
		}
	}
	for _, i := range []int{-1, len(want), len(want) + 1, math.MaxInt, math.MinInt} {
		if s, ok := b.Text(i); s != "" || ok {
			t.Fatalf("Text(%d) of %d entries returns %.60q, %v", i, len(want), s, ok)
		}
	}
}

// answer is what Entry, Head and Absent return.
type answer struct {
	s api.Signed
	e api.Errno
}

// of puts the two results of a call into one.
func of(s api.Signed, e api.Errno) answer { return answer{s, e} }

// signs requires that an answer is the claim with this text, signed by the key 9 with this mark, and that it holds.
func signs(t *testing.T, r *seal.Ring, a answer, text string, mark int) {
	t.Helper()
	if a.e != api.OK || a.s != (api.Signed{Key: 9, Text: text, Mark: mark}) {
		t.Fatalf("%d, %.60q of %d with the mark %d is returned, not %.60q with %d", a.e, a.s.Text, a.s.Key, a.s.Mark, text, mark)
	}
	if _, e := claim.Read(text); !r.Valid(a.s) || e != api.OK {
		t.Fatalf("%.60q does not hold, or is no claim", text)
	}
}

// fails requires that an answer is an error.
func fails(t *testing.T, a answer, want api.Errno) {
	t.Helper()
	if a.s != (api.Signed{}) || a.e != want {
		t.Errorf("%.60v, %d is returned, not %d", a.s, a.e, want)
	}
}

// holds requires that a ring has these texts of the key 9, and no others.
func holds(t *testing.T, r *seal.Ring, want ...string) {
	t.Helper()
	var l []api.Sealed
	for _, text := range want {
		l = append(l, api.Sealed{Key: 9, Text: text})
	}
	if got := r.All(); !slices.Equal(got, l) {
		t.Errorf("the ring has %.300v, not %.300v", got, l)
	}
}

// P7.1: a new book of each key has no entries and no last head, and nothing is signed.
func TestNew(t *testing.T) {
	for key := range 200 {
		r := seal.New()
		b, e := book.New(r, key)
		if b == nil || e != api.OK {
			t.Fatalf("New with the key %d returns %d", key, e)
		}
		has(t, b)
		holds(t, r)
		fails(t, of(b.Entry(0)), api.ErrNone)
		s, e := b.Head(0)
		if e != api.OK || s != (api.Signed{Key: key, Text: "1;0;0;0:,"}) {
			t.Errorf("the first head of the key %d is %v, %d", key, s, e)
		}
	}
}

// P7.1: a number that is no key is ErrKey.
func TestNewErrKey(t *testing.T) {
	for _, key := range []int{-1, -2, -199, -200, 200, 201, 256, 1 << 31, 1 << 32, 1<<32 + 9, -1 << 32, math.MaxInt, math.MinInt, math.MinInt + 9} {
		r := seal.New()
		if b, e := book.New(r, key); b != nil || e != api.ErrKey {
			t.Errorf("New with the key %d returns a book: %v, %d", key, b != nil, e)
		}
		holds(t, r)
	}
}

// P7.1, P7.2: entries are numbered from 0; a key, and a whole text, may come again.
func TestAppend(t *testing.T) {
	l := []string{
		"1:k,v", "0:,", "1:a,", "1:a,", "1:k,v", "1:k,w", "0:,0:,", "0:,x", "3:a,b,", "4:1:a,,", "2:\xff\x00,\x00", "1:,,", "1::,:", "1:\n,\n",
		"10:abcdefghij,", "19993:" + strings.Repeat("x", 19992) + "y,", "0:," + strings.Repeat("x", 19997), "1:k,v",
	}
	r, b := newBook(t, l...)
	has(t, b, l...)
	holds(t, r)
}

// noKey are texts that have no key.
func noKey() []string {
	return []string{"", "a", ",", ":", "0", "0:", ":,", "1:,", "1:a", "2:a,", "1:ab,", "01:a,", "00:,", "+1:a,", "-1:a,", " 1:a,", "1 :a,", "1;a,", "99999999999999999999:a,", "k", "1:ab", "x1:a,", "0;0:,"}
}

// P7.1: a text without a key is ErrForm, however long it is.
func TestAppendErrForm(t *testing.T) {
	long := strings.Repeat("x", 20001)
	r, b := newBook(t, "1:a,")
	for _, text := range append(noKey(), long, long[1:], "30000:"+long+",", "20001:"+long, "1:a"+long) {
		appendFails(t, b, text, api.ErrForm)
	}
	has(t, b, "1:a,")
	holds(t, r)
	appends(t, b, "1:a,", 1)
}

// P7.1: a text has at most 20000 bytes, of which its key may be any part.
func TestAppendErrRange(t *testing.T) {
	x := strings.Repeat("x", 30000)
	r, b := newBook(t)
	for _, text := range []string{"0:," + x[:19998], "1:a," + x[:19997], "19994:" + x[:19994] + ",", "19995:" + x[:19995] + ",", "20000:" + x[:20000] + ",", "0:," + x, "30000:" + x + ","} {
		if len(text) <= 20000 {
			t.Fatalf("%.20q has %d bytes", text, len(text))
		}
		appendFails(t, b, text, api.ErrRange)
	}
	has(t, b)
	appends(t, b, "0:,"+x[:19997], 0)
	appends(t, b, "19993:"+x[:19993]+",", 1)
	// The key of a text that was refused is no key of an entry.
	signs(t, r, of(b.Absent("a", 2)), "2;2;0;1:a,", 0)
}

// full returns a book with 200000 entries, of which each tenth has the same key.
func full(t *testing.T) (*seal.Ring, *book.Book) {
	t.Helper()
	r, b := newBook(t)
	for i := range 200000 {
		appends(t, b, fullText(i), i)
	}
	return r, b
}

func fullText(i int) string {
	if i%10 == 5 {
		return "1:k," + strconv.Itoa(i)
	}
	return strconv.Itoa(len(strconv.Itoa(i))) + ":" + strconv.Itoa(i) + ","
}

// P7.1 to P7.5 at the limits of a full book; P7.1: ErrFull comes after the other errors.
func TestFull(t *testing.T) {
	r, b := full(t)
	x := strings.Repeat("x", 20000)
	for _, text := range []string{"1:a,", "0:,", "1:k,", "0:," + x[:19997]} {
		appendFails(t, b, text, api.ErrFull)
	}
	appendFails(t, b, "0:,"+x[:19998], api.ErrRange)
	appendFails(t, b, x, api.ErrForm)
	for i := range 200000 {
		if s, ok := b.Text(i); s != fullText(i) || !ok {
			t.Fatalf("Text(%d) returns %q, %v", i, s, ok)
		}
	}
	if s, ok := b.Text(200000); s != "" || ok {
		t.Errorf("Text(200000) returns %q, %v", s, ok)
	}
	signs(t, r, of(b.Entry(199999)), "0;199999;0;9:6:199999,,", 0)
	fails(t, of(b.Entry(200000)), api.ErrNone)
	signs(t, r, of(b.Head(1<<30)), "1;200000;1073741824;0:,", 1)
	signs(t, r, of(b.Absent("a", 200000)), "2;200000;0;1:a,", 2)
	fails(t, of(b.Absent("a", 200001)), api.ErrArg)
	signs(t, r, of(b.Absent("199999", 199999)), "2;199999;0;6:199999,", 3)
	fails(t, of(b.Absent("199999", 200000)), api.ErrTwice)
	signs(t, r, of(b.Absent("k", 5)), "2;5;0;1:k,", 4)
	fails(t, of(b.Absent("k", 6)), api.ErrTwice)
	c := b.Copy(r)
	appendFails(t, c, "1:a,", api.ErrFull)
	signs(t, r, of(c.Entry(199999)), "0;199999;0;9:6:199999,,", 0)
}

// P7.3: each entry is signed with its number and its text; two that are equal are two claims.
func TestEntry(t *testing.T) {
	r, b := newBook(t, "1:a,x", "0:,", "1:a,x")
	signs(t, r, of(b.Entry(2)), "0;2;0;5:1:a,x,", 0)
	signs(t, r, of(b.Entry(0)), "0;0;0;5:1:a,x,", 1)
	signs(t, r, of(b.Entry(1)), "0;1;0;3:0:,,", 2)
	signs(t, r, of(b.Entry(2)), "0;2;0;5:1:a,x,", 0)
	for _, i := range []int{-1, -2, 3, 4, 200000, 1 << 32, 1<<32 + 1, math.MaxInt, math.MinInt} {
		fails(t, of(b.Entry(i)), api.ErrNone)
	}
	holds(t, r, "0;2;0;5:1:a,x,", "0;0;0;5:1:a,x,", "0;1;0;3:0:,,")
	x := strings.Repeat("x", 19997)
	appends(t, b, "0:,"+x, 3)
	signs(t, r, of(b.Entry(3)), "0;3;0;20000:0:,"+x+",", 3)
}

// P7.4: a head may come after the last one, or at its moment if nothing was appended.
func TestHead(t *testing.T) {
	r, b := newBook(t)
	signs(t, r, of(b.Head(0)), "1;0;0;0:,", 0)
	signs(t, r, of(b.Head(0)), "1;0;0;0:,", 0)
	appends(t, b, "1:a,", 0)
	fails(t, of(b.Head(0)), api.ErrState)
	signs(t, r, of(b.Head(7)), "1;1;7;0:,", 1)
	signs(t, r, of(b.Head(7)), "1;1;7;0:,", 1)
	for _, now := range []int{6, 5, 1, 0} {
		fails(t, of(b.Head(now)), api.ErrState)
	}
	signs(t, r, of(b.Head(8)), "1;1;8;0:,", 2)
	fails(t, of(b.Head(7)), api.ErrState)
	appends(t, b, "1:a,", 1)
	appends(t, b, "1:b,", 2)
	fails(t, of(b.Head(7)), api.ErrState)
	fails(t, of(b.Head(8)), api.ErrState)
	signs(t, r, of(b.Head(9)), "1;3;9;0:,", 3)
	signs(t, r, of(b.Head(1<<30)), "1;3;1073741824;0:,", 4)
	fails(t, of(b.Head(1<<30-1)), api.ErrState)
	signs(t, r, of(b.Head(1<<30)), "1;3;1073741824;0:,", 4)
	appends(t, b, "1:c,", 3)
	fails(t, of(b.Head(1<<30)), api.ErrState)
	holds(t, r, "1;0;0;0:,", "1;1;7;0:,", "1;1;8;0:,", "1;3;9;0:,", "1;3;1073741824;0:,")
}

// P7.4: what is no moment is ErrArg, whatever the last head is, and is none.
func TestHeadErrArg(t *testing.T) {
	r, b := newBook(t, "1:a,")
	no := []int{-1, -2, -1 << 30, 1<<30 + 1, 1 << 31, 1 << 32, 1<<32 + 5, math.MaxInt, math.MinInt, math.MinInt + 5}
	for mark, now := range []int{0, 5, 1 << 30} {
		for _, n := range no {
			fails(t, of(b.Head(n)), api.ErrArg)
		}
		signs(t, r, of(b.Head(now)), "1;1;"+strconv.Itoa(now)+";0:,", mark)
	}
	appends(t, b, "1:a,", 1)
	for _, n := range no {
		fails(t, of(b.Head(n)), api.ErrArg)
	}
	if n := len(r.All()); n != 3 {
		t.Errorf("%d texts are signed", n)
	}
}

// P7.4: what was no head leaves the last head as it was.
func TestHeadErrState(t *testing.T) {
	r, b := newBook(t, "1:a,")
	signs(t, r, of(b.Head(5)), "1;1;5;0:,", 0)
	fails(t, of(b.Head(4)), api.ErrState)
	fails(t, of(b.Head(4)), api.ErrState)
	signs(t, r, of(b.Head(5)), "1;1;5;0:,", 0)
	appends(t, b, "1:b,", 1)
	fails(t, of(b.Head(5)), api.ErrState)
	fails(t, of(b.Head(5)), api.ErrState)
	signs(t, r, of(b.Head(6)), "1;2;6;0:,", 1)
	holds(t, r, "1;1;5;0:,", "1;2;6;0:,")
}

// P7.4: other claims are no heads.
func TestHeadOnly(t *testing.T) {
	r, b := newBook(t, "1:a,")
	signs(t, r, of(b.Head(5)), "1;1;5;0:,", 0)
	signs(t, r, of(b.Entry(0)), "0;0;0;4:1:a,,", 1)
	signs(t, r, of(b.Absent("b", 0)), "2;0;0;1:b,", 2)
	fails(t, of(b.Head(4)), api.ErrState)
	signs(t, r, of(b.Head(5)), "1;1;5;0:,", 0)
}

// P7.5: a key is absent from the entries before the first one that has it.
func TestAbsent(t *testing.T) {
	l := []string{"1:a,x", "0:,", "1:b,", "1:a,", "2:ab,", "4:1:c,,", "2:\xff\x00,"}
	first := map[string]int{"a": 0, "": 1, "b": 2, "ab": 4, "1:c,": 5, "\xff\x00": 6}
	for _, key := range []string{"a", "", "b", "ab", "1:c,", "\xff\x00", "c", "x", "A", "aa", "ba", "\xff", "\x00", "1:a,", "1:a,x", "0:,", "a ", "abc"} {
		r, b := newBook(t, l...)
		mark := 0
		for n := -2; n <= len(l)+2; n++ {
			a := of(b.Absent(key, n))
			if i, there := first[key]; n < 0 || n > len(l) {
				fails(t, a, api.ErrArg)
			} else if there && n > i {
				fails(t, a, api.ErrTwice)
			} else {
				signs(t, r, a, "2;"+strconv.Itoa(n)+";0;"+strconv.Itoa(len(key))+":"+key+",", mark)
				mark++
			}
		}
		for _, n := range []int{math.MaxInt, math.MinInt, 1 << 32, 1<<32 + 1, -1 << 32} {
			fails(t, of(b.Absent(key, n)), api.ErrArg)
		}
		if got := len(r.All()); got != mark {
			t.Errorf("%d texts are signed, not %d", got, mark)
		}
	}
}

// P7.5: a key that is asked for has at most 20000 bytes; an entry has none that is as long.
func TestAbsentLong(t *testing.T) {
	x := strings.Repeat("x", 30000)
	r, b := newBook(t, "0:,", "19993:"+x[:19993]+",")
	for _, n := range []int{0, 1, 2, 3, -1} {
		fails(t, of(b.Absent(x[:20001], n)), api.ErrArg)
		fails(t, of(b.Absent(x, n)), api.ErrArg)
	}
	signs(t, r, of(b.Absent(x[:20000], 2)), "2;2;0;20000:"+x[:20000]+",", 0)
	signs(t, r, of(b.Absent(x[:20000], 0)), "2;0;0;20000:"+x[:20000]+",", 1)
	signs(t, r, of(b.Absent(x[:19994], 2)), "2;2;0;19994:"+x[:19994]+",", 2)
	signs(t, r, of(b.Absent(x[:19992], 2)), "2;2;0;19992:"+x[:19992]+",", 3)
	signs(t, r, of(b.Absent(x[:19993], 1)), "2;1;0;19993:"+x[:19993]+",", 4)
	fails(t, of(b.Absent(x[:19993], 2)), api.ErrTwice)
}

// P7.5: what was absent stays so from the entries that were there.
func TestAbsentLater(t *testing.T) {
	r, b := newBook(t, "1:a,")
	signs(t, r, of(b.Absent("b", 1)), "2;1;0;1:b,", 0)
	appends(t, b, "1:b,", 1)
	signs(t, r, of(b.Absent("b", 1)), "2;1;0;1:b,", 0)
	fails(t, of(b.Absent("b", 2)), api.ErrTwice)
	appends(t, b, "1:b,", 2)
	appends(t, b, "1:a,", 3)
	signs(t, r, of(b.Absent("b", 1)), "2;1;0;1:b,", 0)
	for _, n := range []int{2, 3, 4} {
		fails(t, of(b.Absent("b", n)), api.ErrTwice)
	}
	signs(t, r, of(b.Absent("a", 0)), "2;0;0;1:a,", 1)
	fails(t, of(b.Absent("a", 1)), api.ErrTwice)
}

// P7.3 to P7.5: the marks are those of the ring, into which others sign too, and which has signatures of the key already.
func TestMarks(t *testing.T) {
	r := seal.New()
	r.Sign(8, "1;1;5;0:,")
	r.Sign(9, "1;1;5;0:,")
	r.Sign(9, "x")
	b, _ := book.New(r, 9)
	appends(t, b, "1:a,", 0)
	signs(t, r, of(b.Head(5)), "1;1;5;0:,", 1)
	signs(t, r, of(b.Entry(0)), "0;0;0;4:1:a,,", 3)
	r.Sign(9, "2;1;0;1:b,")
	r.Sign(7, "2;0;0;1:b,")
	signs(t, r, of(b.Absent("b", 1)), "2;1;0;1:b,", 4)
	signs(t, r, of(b.Absent("b", 0)), "2;0;0;1:b,", 6)
}

// The examples of the document.
func TestExamples(t *testing.T) {
	r, b := newBook(t, "1:k,v")
	signs(t, r, of(b.Absent("k", 0)), "2;0;0;1:k,", 0)
	fails(t, of(b.Absent("k", 1)), api.ErrTwice)
	signs(t, r, of(b.Head(5)), "1;1;5;0:,", 1)
	signs(t, r, of(b.Head(5)), "1;1;5;0:,", 1)
	appends(t, b, "1:k,v", 1)
	fails(t, of(b.Head(5)), api.ErrState)
	signs(t, r, of(b.Head(6)), "1;2;6;0:,", 2)
}
