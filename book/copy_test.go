package book_test

import (
	"strconv"
	"strings"
	"testing"

	"lading/api"
	"lading/book"
	"lading/seal"
)

// P7.6: a copy has the same key, entries and last head, and signs into its own ring.
func TestCopy(t *testing.T) {
	r, b := newBook(t, "1:a,x", "1:b,")
	signs(t, r, of(b.Head(5)), "1;2;5;0:,", 0)
	q := seal.New()
	c := b.Copy(q)
	holds(t, q)
	has(t, c, "1:a,x", "1:b,")
	fails(t, of(c.Head(4)), api.ErrState)
	signs(t, q, of(c.Absent("b", 1)), "2;1;0;1:b,", 0)
	fails(t, of(c.Absent("b", 2)), api.ErrTwice)
	signs(t, q, of(c.Entry(0)), "0;0;0;5:1:a,x,", 1)
	signs(t, q, of(c.Head(5)), "1;2;5;0:,", 2)
	holds(t, r, "1;2;5;0:,")
	holds(t, q, "2;1;0;1:b,", "0;0;0;5:1:a,x,", "1;2;5;0:,")
}

// P7.6: a copy of a new book is one, which has no last head.
func TestCopyNew(t *testing.T) {
	_, b := newBook(t)
	r := seal.New()
	c := b.Copy(r)
	has(t, c)
	fails(t, of(c.Entry(0)), api.ErrNone)
	signs(t, r, of(c.Absent("a", 0)), "2;0;0;1:a,", 0)
	signs(t, r, of(c.Head(0)), "1;0;0;0:,", 1)
	appends(t, c, "1:a,", 0)
	fails(t, of(c.Absent("a", 1)), api.ErrTwice)
	has(t, b)
}

// P7.6: the key is that of the book, whichever it is.
func TestCopyKey(t *testing.T) {
	for _, key := range []int{0, 1, 100, 199} {
		b, _ := book.New(seal.New(), key)
		s, e := b.Copy(seal.New()).Copy(seal.New()).Head(3)
		if e != api.OK || s != (api.Signed{Key: key, Text: "1;0;3;0:,"}) {
			t.Errorf("a copy of a book of the key %d signs %v, %d", key, s, e)
		}
	}
}

// P7.6: the ring may be that of the book, which then gives the same marks.
func TestCopySameRing(t *testing.T) {
	r, b := newBook(t, "1:a,")
	signs(t, r, of(b.Head(5)), "1;1;5;0:,", 0)
	signs(t, r, of(b.Entry(0)), "0;0;0;4:1:a,,", 1)
	c := b.Copy(r)
	signs(t, r, of(c.Entry(0)), "0;0;0;4:1:a,,", 1)
	signs(t, r, of(c.Head(5)), "1;1;5;0:,", 0)
	signs(t, r, of(c.Absent("a", 0)), "2;0;0;1:a,", 2)
	signs(t, r, of(b.Absent("a", 0)), "2;0;0;1:a,", 2)
}

// signsNew requires that an answer is the claim with this text, and the last one in the ring.
func signsNew(t *testing.T, r *seal.Ring, a answer, text string) {
	t.Helper()
	signs(t, r, a, text, len(r.All())-1)
}

// P7.6: what is done with a book is not seen in its copy, and the other way round, in whichever order.
func TestCopyIndependent(t *testing.T) {
	for _, swap := range []bool{false, true} {
		// With each length before the copy, since slices grow in jumps.
		for n := range 20 {
			r, b := newBook(t)
			var l []string
			for i := range n {
				l = append(l, "1:k,"+strconv.Itoa(i))
				appends(t, b, l[i], i)
			}
			signs(t, r, of(b.Head(5)), "1;"+strconv.Itoa(n)+";5;0:,", 0)
			q := seal.New()
			c := b.Copy(q)
			if swap {
				b, c, r, q = c, b, q, r
			}
			appends(t, b, "1:x,b", n)
			appends(t, c, "1:y,c", n)
			appends(t, b, "1:z,b", n+1)
			signsNew(t, r, of(b.Head(9)), "1;"+strconv.Itoa(n+2)+";9;0:,")
			has(t, b, append(l[:n:n], "1:x,b", "1:z,b")...)
			has(t, c, append(l[:n:n], "1:y,c")...)
			fails(t, of(c.Head(5)), api.ErrState)
			signsNew(t, q, of(c.Head(6)), "1;"+strconv.Itoa(n+1)+";6;0:,")
			fails(t, of(b.Head(8)), api.ErrState)
			fails(t, of(b.Absent("x", n+1)), api.ErrTwice)
			fails(t, of(c.Absent("y", n+1)), api.ErrTwice)
			signsNew(t, r, of(b.Absent("y", n+2)), "2;"+strconv.Itoa(n+2)+";0;1:y,")
			signsNew(t, q, of(c.Absent("x", n+1)), "2;"+strconv.Itoa(n+1)+";0;1:x,")
			fails(t, of(c.Entry(n+1)), api.ErrNone)
		}
	}
}

// P7.7: the ring of a book is only signed into, and only by Entry, Head and Absent; a ring that is no longer used, or copied, is as it was.
func TestRing(t *testing.T) {
	r, b := newBook(t, "1:a,", "1:b,")
	signs(t, r, of(b.Head(5)), "1;2;5;0:,", 0)
	q := r.Copy()
	c := b.Copy(q)
	signs(t, q, of(c.Entry(0)), "0;0;0;4:1:a,,", 1)
	holds(t, r, "1;2;5;0:,")
	signs(t, r, of(b.Entry(1)), "0;1;0;4:1:b,,", 1)
	holds(t, r, "1;2;5;0:,", "0;1;0;4:1:b,,")
	holds(t, q, "1;2;5;0:,", "0;0;0;4:1:a,,")
	b.Len()
	b.Text(0)
	appends(t, b, "1:c,", 2)
	appendFails(t, b, "c", api.ErrForm)
	fails(t, of(b.Entry(3)), api.ErrNone)
	fails(t, of(b.Head(5)), api.ErrState)
	fails(t, of(b.Head(-1)), api.ErrArg)
	fails(t, of(b.Absent("a", 1)), api.ErrTwice)
	fails(t, of(b.Absent("x", 4)), api.ErrArg)
	fails(t, of(b.Absent(strings.Repeat("x", 20001), 1)), api.ErrArg)
	holds(t, r, "1;2;5;0:,", "0;1;0;4:1:b,,")
}

// P4: books do not know of each other, also of the same key, and of the same ring only the marks.
func TestManyBooks(t *testing.T) {
	r, b := newBook(t, "1:a,")
	signs(t, r, of(b.Head(5)), "1;1;5;0:,", 0)
	c, _ := book.New(r, 9)
	has(t, c)
	signs(t, r, of(c.Head(4)), "1;0;4;0:,", 1)
	signs(t, r, of(c.Absent("a", 0)), "2;0;0;1:a,", 2)
	appends(t, c, "1:b,", 0)
	signs(t, r, of(c.Entry(0)), "0;0;0;4:1:b,,", 3)
	signs(t, r, of(b.Entry(0)), "0;0;0;4:1:a,,", 4)
	has(t, b, "1:a,")
}
