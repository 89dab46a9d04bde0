package view_test

import (
	"math"
	"slices"
	"strconv"
	"strings"
	"testing"

	"lading/api"
	"lading/seal"
	"lading/view"
)

// same requires that a view says the same as another one, and has accepted the same.
func same(t *testing.T, v, want *view.View, keys ...string) {
	t.Helper()
	if got, is := says(v, keys...), says(want, keys...); got != is || !slices.Equal(v.Claims(), want.Claims()) || v.Bytes() != want.Bytes() {
		t.Errorf("a view with %v says\n%s\nnot, with %v,\n%s", v.Claims(), got, want.Claims(), is)
	}
}

// reads requires that Read returns a view that has these bytes, and returns it.
func reads(t *testing.T, r *seal.Ring, s string) *view.View {
	t.Helper()
	v, e := view.Read(r, s)
	if v == nil || e != api.OK {
		t.Fatalf("Read of %.100q returns a view: %v, %d", s, v != nil, e)
	}
	if got := v.Bytes(); got != s {
		t.Fatalf("the bytes of a view that was read are %.100q, not %.100q", got, s)
	}
	return v
}

// readFails requires that Read returns an error.
func readFails(t *testing.T, r *seal.Ring, s string, want api.Errno) {
	t.Helper()
	if v, e := view.Read(r, s); v != nil || e != want {
		t.Errorf("Read of %.100q returns a view: %v, %d, not %d", s, v != nil, e, want)
	}
}

// P8.5: the bytes have the key, and the marks and texts of the claims in the order in which they were accepted.
func TestBytes(t *testing.T) {
	r := seal.New()
	r.Sign(7, "x")
	v := view.New(r, 150)
	want := ""
	for i, c := range []struct {
		text  string
		mark  int
		bytes string
	}{
		{size(12, 3), 1, "1;10:1;12;3;0:,,"},
		{entry(0, "1:a,x"), 2, "2;14:0;0;0;5:1:a,x,,"},
		{absent(4, "\x00;"), 3, "3;11:2;4;0;2:\x00;,,"},
		{size(1, 1), 4, "4;9:1;1;1;0:,,"},
	} {
		s := r.Sign(150, c.text)
		if s.Mark != c.mark {
			t.Fatalf("the mark of %q is %d", c.text, s.Mark)
		}
		accepts(t, v, s, api.OK)
		accepts(t, v, s, api.OK)
		accepts(t, v, r.Sign(7, "x"), api.ErrKey)
		want += c.bytes
		if got := v.Bytes(); got != "150;"+strconv.Itoa(i+1)+";"+want {
			t.Errorf("the bytes are %q, not those of %q", got, want)
		}
	}
}

// P8.5: marks of more than one digit, in any order.
func TestBytesMarks(t *testing.T) {
	r := seal.New()
	for i := range 12 {
		r.Sign(3, size(i, i))
	}
	r.Sign(3, size(11, 20))
	v := view.New(r, 3)
	for _, i := range []int{11, 0, 10} {
		accepts(t, v, r.Sign(3, size(i, i)), api.OK)
	}
	want := "3;3;11;11:1;11;11;0:,,0;9:1;0;0;0:,,10;11:1;10;10;0:,,"
	if got := v.Bytes(); got != want {
		t.Errorf("the bytes are %q, not %q", got, want)
	}
	same(t, reads(t, r, want), v)
}

// P8.5: Read returns a view that says the same, keeps the ring, and goes on as the other one does.
func TestRead(t *testing.T) {
	x := strings.Repeat("x", 20000)
	for _, l := range [][]string{
		{}, {size(0, 0)}, {size(5, 9), size(3, 7), size(5, 8)}, {entry(1, "1:a,"), absent(3, "b"), size(9, 9), absent(1, "a"), entry(0, "1:d,x"), absent(2, "c")},
		{absent(5, "a"), absent(3, "a"), absent(4, "a")}, {absent(0, x), entry(199999, "0:,"+x[:19997])}, {entry(0, "1:a,"), entry(1, "1:a,"), entry(2, "1:a,"), size(3, 3)},
	} {
		r, v := newView(t, l...)
		w := reads(t, r, v.Bytes())
		same(t, w, v, x)
		for _, text := range []string{size(6, 9), size(6, 10), entry(1, "1:a,"), entry(0, "1:b,"), absent(4, "a"), absent(4, "b"), absent(200000, "d"), entry(8, "1:d,")} {
			s := r.Sign(3, text)
			if e, want := w.Accept(s), v.Accept(s); e != want {
				t.Errorf("Accept of %q by a view that was read returns %d, not %d", text, e, want)
			}
			same(t, w, v, x)
		}
	}
}

// P8.5: Read with each key.
func TestReadKeys(t *testing.T) {
	for key := range 200 {
		r := seal.New()
		s := r.Sign(key, size(1, 2))
		isEmpty(t, reads(t, r, strconv.Itoa(key)+";0;"), key)
		v := reads(t, r, strconv.Itoa(key)+";1;0;9:1;1;2;0:,,")
		if l := v.Claims(); v.Key() != key || !slices.Equal(l, []api.Signed{s}) {
			t.Errorf("a view that was read has the key %d, not %d, and %v", v.Key(), key, l)
		}
	}
}

// malformed are strings that are not the bytes of a view, where the key 3 has signed "1;1;2;0:,".
func malformed() []string {
	good := "0;9:1;1;2;0:,,"
	return []string{
		"", "3", "3;", "3;0", "3;;", ";0;", "x", "3;0;x", "3;0; ", " 3;0;", "3;0;0;", "03;0;", "3;00;", "-3;0;", "-0;0;", "+3;0;", "3;-0;", "3;-1;", "3:0;", "3;0,", "3,0;",
		"200;0;", "201;0;", "-1;0;", "256;0;", "4294967299;0;", "9223372036854775807;0;", "9223372036854775808;0;", "18446744073709551619;0;", "200;1;" + good, "-3;1;" + good,
		"3;1;", "3;2;", "3;9223372036854775807;", "3;9223372036854775808;", "3;1;0;", "3;1;0;9:1;1;2;0:,", "3;1;9:1;1;2;0:,,", "3;1;" + good + ",", "3;1;" + good + good, "3;0;" + good, "3;2;" + good, "3;3;" + good + good, "3;1;" + good + "0;",
		"3;1;-1;9:1;1;2;0:,,", "3;1;-0;9:1;1;2;0:,,", "3;1;00;9:1;1;2;0:,,", "3;1;9223372036854775808;9:1;1;2;0:,,", "3;1;0;8:1;1;2;0:,,", "3;1;0;10:1;1;2;0:,,", "3;1;0;09:1;1;2;0:,,", "3;1;0;9:1;1;2;0:,;", "3;9223372036854775807;" + good, "3;4294967297;" + good, "3;1" + good, "3;1[" + good + "]", "1[" + good + "]",
	}
}

// P8.5: without a ring it is ErrArg, whatever the string is.
func TestReadErrArg(t *testing.T) {
	for _, s := range append(malformed(), "3;0;", "3;1;0;9:1;1;2;0:,,", "3;1;5;1:x,") {
		readFails(t, nil, s, api.ErrArg)
	}
}

// P8.5: a string that is none of a view is ErrForm.
func TestReadErrForm(t *testing.T) {
	r, v := newView(t, "1;1;2;0:,")
	reads(t, r, "3;1;0;9:1;1;2;0:,,")
	same(t, reads(t, r, v.Bytes()), v)
	for _, s := range malformed() {
		readFails(t, r, s, api.ErrForm)
	}
}

// item returns the bytes of a claim with a mark.
func item(mark int, text string) string {
	return strconv.Itoa(mark) + ";" + strconv.Itoa(len(text)) + ":" + text + ","
}

// signedRing returns a ring, and the bytes of the claims in it: a head, an entry, another text of it, an absent key, what is no claim of a log, and what another key has signed.
func signedRing() (*seal.Ring, []string) {
	r := seal.New()
	var l []string
	for _, text := range []string{size(1, 2), entry(0, "1:a,"), entry(0, "1:b,"), absent(1, "a"), "x", built(1, "b"), ""} {
		l = append(l, item(r.Sign(3, text).Mark, text))
	}
	return r, append(l, item(r.Sign(4, size(2, 3)).Mark, size(2, 3)))
}

// P8.5: the errors of the claims, of which that of the first one counts.
func TestReadErrors(t *testing.T) {
	r, l := signedRing()
	wrong := []string{item(1, size(1, 2)), item(99, size(1, 2)), item(math.MaxInt, size(1, 2)), item(0, size(1, 3)), item(0, "x"), item(50, "y"), item(1, entry(0, "1:a,x"))}
	for _, c := range []struct {
		items []int
		want  api.Errno
	}{
		{[]int{0}, api.OK}, {[]int{0, 1}, api.OK}, {[]int{1, 0}, api.OK}, {[]int{2, 0, 3}, api.OK}, {[]int{4}, api.ErrForm}, {[]int{5}, api.ErrForm}, {[]int{6}, api.ErrForm}, {[]int{7}, api.ErrSeal}, {[]int{0, 4}, api.ErrForm},
		{[]int{1, 2}, api.ErrSplit}, {[]int{2, 1}, api.ErrSplit}, {[]int{1, 3}, api.ErrSplit}, {[]int{3, 1}, api.ErrSplit}, {[]int{0, 0}, api.ErrTwice}, {[]int{0, 1, 0}, api.ErrTwice}, {[]int{3, 3}, api.ErrTwice}, {[]int{1, 0, 1}, api.ErrTwice},
		{[]int{0, 0, 4}, api.ErrTwice}, {[]int{4, 0, 0}, api.ErrForm}, {[]int{4, 4}, api.ErrForm}, {[]int{7, 7}, api.ErrSeal}, {[]int{0, 1, 2, 1}, api.ErrSplit}, {[]int{0, 1, 1, 2}, api.ErrTwice}, {[]int{1, 2, 7}, api.ErrSplit}, {[]int{7, 1, 2}, api.ErrSeal}, {[]int{1, 7, 2}, api.ErrSeal}, {[]int{0, 1, 4, 7}, api.ErrForm},
	} {
		s := "3;" + strconv.Itoa(len(c.items)) + ";"
		for _, k := range c.items {
			s += l[k]
		}
		if c.want == api.OK {
			reads(t, r, s)
		} else {
			readFails(t, r, s, c.want)
		}
		readFails(t, r, s+"x", api.ErrForm)
		readFails(t, r, s[:len(s)-1], api.ErrForm)
	}
	for _, bad := range wrong {
		readFails(t, r, "3;1;"+bad, api.ErrSeal)
		readFails(t, r, "3;2;"+l[0]+bad, api.ErrSeal)
		readFails(t, r, "3;3;"+bad+l[0]+l[0], api.ErrSeal)
		readFails(t, r, "3;3;"+l[0]+l[0]+bad, api.ErrTwice)
	}
	readFails(t, r, "4;1;"+l[0], api.ErrSeal)
	reads(t, r, "4;1;"+l[7])
}

// P8.5: nothing is read back of what another ring has signed.
func TestReadOtherRing(t *testing.T) {
	_, v := newView(t, entry(0, "1:a,"), size(1, 1))
	q := seal.New()
	readFails(t, q, v.Bytes(), api.ErrSeal)
	q.Sign(3, size(1, 1))
	q.Sign(3, entry(0, "1:a,"))
	readFails(t, q, v.Bytes(), api.ErrSeal)
	w := reads(t, q, "3;2;"+item(1, entry(0, "1:a,"))+item(0, size(1, 1)))
	if says(w) != says(v) {
		t.Errorf("the view says\n%s\nnot\n%s", says(w), says(v))
	}
}

// P8.5: each string has one reading: with a byte changed, added or removed it is another view, or an error.
func TestReadBytes(t *testing.T) {
	r, v := newView(t, entry(0, "1:a,"), absent(10, "b"), size(1, 12))
	r.Sign(3, size(2, 12))
	s := v.Bytes()
	check := func(s string) {
		if w, e := view.Read(r, s); (w == nil) != (e != api.OK) || w != nil && w.Bytes() != s {
			t.Errorf("Read of %q returns a view: %v, %d", s, w != nil, e)
		}
	}
	for i := range s {
		for b := range 256 {
			check(s[:i] + string([]byte{byte(b)}) + s[i:])
			check(s[:i] + string([]byte{byte(b)}) + s[i+1:])
		}
		readFails(t, r, s[:i]+s[i+1:], api.ErrForm)
		readFails(t, r, s[:i], api.ErrForm)
	}
}

// P8.5: a copy says the same, has the same ring, and is independent, with each number of claims before it, since slices grow in jumps.
func TestCopy(t *testing.T) {
	for _, swap := range []bool{false, true} {
		for n := range 20 {
			r, v := newView(t)
			for i := range n {
				accepts(t, v, r.Sign(3, []string{entry(i, "1:a,"), size(i, i), absent(i, "b")}[i%3]), api.OK)
			}
			c := v.Copy()
			same(t, c, v)
			before := v.Bytes()
			if swap {
				v, c = c, v
			}
			for _, text := range []string{entry(30, "1:v,"), size(99, 99), absent(40, "b"), absent(41, "v"), size(99, 50), entry(31, "1:x,")} {
				if text == absent(41, "v") {
					accepts(t, v, r.Sign(3, text), api.ErrSplit)
					continue
				}
				accepts(t, v, r.Sign(3, text), api.OK)
			}
			if c.Bytes() != before {
				t.Fatalf("the bytes are %q, not %q", c.Bytes(), before)
			}
			same(t, c, reads(t, r, before))
			for _, text := range []string{entry(30, "1:c,"), size(98, 98), absent(41, "v"), entry(39, "1:b,"), entry(31, "1:y,")} {
				accepts(t, c, r.Sign(3, text), api.OK)
			}
			knows(t, v, 30, "1:v,", true)
			knows(t, c, 30, "1:c,", true)
			knows(t, v, 39, "", false)
			knows(t, v, 31, "1:x,", true)
			knows(t, c, 31, "1:y,", true)
			is(t, v, 99, 99)
			is(t, c, 98, 98)
			lacks(t, v, "v", 0, false)
			lacks(t, c, "v", 41, true)
			same(t, v, reads(t, r, v.Bytes()), "v")
			same(t, c, reads(t, r, c.Bytes()), "v")
		}
	}
}

// P8.6: what Claims has returned can be changed, and does not change.
func TestMemory(t *testing.T) {
	for n := range 10 {
		r, v := newView(t)
		for i := range n {
			accepts(t, v, r.Sign(3, entry(i, "1:a,")), api.OK)
		}
		l, s := v.Claims(), v.Bytes()
		kept := slices.Clone(l)
		accepts(t, v, r.Sign(3, size(n, 5)), api.OK)
		if !slices.Equal(l, kept) {
			t.Errorf("the claims are %v, not %v", l, kept)
		}
		for i := range l {
			l[i] = api.Signed{Key: 9, Text: "x", Mark: 9}
		}
		l = append(l, api.Signed{Key: 9, Text: "y", Mark: 9})
		if got, want := v.Claims(), append(kept, r.Sign(3, size(n, 5))); !slices.Equal(got, want) || len(l) != n+1 {
			t.Errorf("the claims are %v, not %v", got, want)
		}
		same(t, v, reads(t, r, v.Bytes()))
		if w := reads(t, r, s); len(w.Claims()) != n {
			t.Errorf("a view has %d claims, not %d", len(w.Claims()), n)
		}
	}
}
