package wire_test

import (
	"math"
	"strings"
	"testing"

	"lading/wire"
)

// samples are values of the kind that the method reads, all of them different.
func samples(name string) []value {
	var l []value
	switch name {
	case "Num", "Int":
		for _, n := range []int{0, 1, 2, 9, 10, 11, 19, 99, 100, 101, 1000, 65535, 1 << 31, 1 << 32, 1 << 53, 1<<62 + 1, math.MaxInt - 1, math.MaxInt} {
			l = append(l, value{n: n})
			if name == "Int" && n > 0 {
				l = append(l, value{n: -n})
			}
		}
		if name == "Int" {
			l = append(l, value{n: math.MinInt})
		}
	case "Text":
		for _, s := range words() {
			l = append(l, value{s: s})
		}
	case "Nums":
		l = append(l, value{})
		ints := samples("Int")
		for i, a := range ints {
			b := ints[(i*7+3)%len(ints)]
			l = append(l, value{nums: []int{a.n}}, value{nums: []int{a.n, b.n}}, value{nums: []int{b.n, a.n, b.n}})
		}
		l = append(l, value{nums: make([]int, 9)}, value{nums: make([]int, 10)}, value{nums: make([]int, 1000)})
	case "Texts":
		l = append(l, value{})
		ws := words()
		for i, a := range ws {
			b := ws[(i*5+2)%len(ws)]
			l = append(l, value{texts: []string{a}}, value{texts: []string{a, b}}, value{texts: []string{b, a, a}})
		}
		l = append(l, value{texts: ws}, value{texts: make([]string, 10)}, value{texts: make([]string, 1000)})
	}
	return l
}

// words are strings, many of which look like encodings, or parts of them.
func words() []string {
	l := []string{
		"", "a", "b", "ab", ",", ":", ";", "-", "[", "]", ",,", "];", "0", "1", "01", "1:", "1:a", "1:a,", "0:,", "0[]", "1[1;]", "2[0:,1:x,]", "-1;", "-0;", "7;7;",
		"\x00", "\xff", "\x80\x81", "é", "\u20ac", "\r\n", " ", "\t", "quote\"back\\slash", strings.Repeat("x", 9), strings.Repeat("x", 10), strings.Repeat(":", 99),
		strings.Repeat(",", 100), strings.Repeat("1:a,", 300), strings.Repeat("\xff", 70000),
	}
	var bytes [256]byte
	for i := range bytes {
		bytes[i] = byte(i)
	}
	return append(l, string(bytes[:]))
}

// P1.4: what is written is read back, wherever it stands.
func TestReadInvertsWrite(t *testing.T) {
	for _, m := range methods() {
		for _, v := range samples(m.name) {
			s := m.write(v)
			r := wire.Open("0;" + s + "1;")
			if r.Num() != 0 || !m.read(r).equal(v) || r.Left() != 2 || r.Num() != 1 || !r.Done() {
				t.Errorf("%s: %.60q is not read back", m.name, s)
			}
		}
	}
}

// P1.4: no two values of one kind have the same encoding, and none is a prefix of another one; so no prefix of an encoding can be read.
func TestNoPrefixes(t *testing.T) {
	for _, m := range methods() {
		l := samples(m.name)
		for i, a := range l {
			s := m.write(a)
			for j, b := range l {
				if i != j && strings.HasPrefix(m.write(b), s) {
					t.Errorf("%s: %.60q is a prefix of %.60q", m.name, s, m.write(b))
				}
			}
			for n := 0; n < min(len(s), 400); n++ {
				r := wire.Open(s[:n])
				if v := m.read(r); !v.none() || r.Done() || r.Left() != 0 {
					t.Errorf("%s reads %.60q, which is cut", m.name, s[:n])
				}
			}
		}
	}
}

// checkExact requires that what is read from s, if something is, has exactly the bytes that were read as its encoding, and reports whether something was read.
func checkExact(t *testing.T, m method, s string) bool {
	r := wire.Open(s)
	v := m.read(r)
	if !r.Done() && r.Left() == 0 {
		if !v.none() || r.Rest() != "" {
			t.Errorf("%s of %q fails with %.60q", m.name, s, m.write(v))
		}
		return false
	}
	if read := s[:len(s)-r.Left()]; read != m.write(v) {
		t.Errorf("%s reads %q as %.60q", m.name, read, m.write(v))
	}
	return true
}

// P1.4 and P1.2: of all short strings over the bytes that matter, those are read that begin with the encoding of a value, and no others.
func TestReadAllShortStrings(t *testing.T) {
	const most = 6
	alphabet := "012-;:,[]a"
	for _, m := range methods() {
		encodings := map[string]bool{}
		for _, v := range shortValues(m.name, alphabet) {
			encodings[m.write(v)] = true
		}
		var walk func(s string, begins bool)
		walk = func(s string, begins bool) {
			begins = begins || encodings[s]
			if checkExact(t, m, s) != begins {
				t.Errorf("%s of %q: an encoding stands there: %v", m.name, s, begins)
			}
			if len(s) < most && !t.Failed() {
				for i := range len(alphabet) {
					walk(s+alphabet[i:i+1], begins)
				}
			}
		}
		walk("", false)
	}
}

// shortValues are at least all the values of a kind whose encodings have up to 6 bytes, if strings have bytes of the alphabet.
func shortValues(name, alphabet string) []value {
	l := []value{{}}
	switch name {
	case "Num":
		for n := range 100000 {
			l = append(l, value{n: n})
		}
	case "Int":
		for n := -9999; n < 100000; n++ {
			l = append(l, value{n: n})
		}
	case "Text":
		strs := []string{""}
		for i := 0; i < len(strs) && len(strs[i]) < 3; i++ {
			for j := range len(alphabet) {
				strs = append(strs, strs[i]+alphabet[j:j+1])
			}
		}
		for _, s := range strs {
			l = append(l, value{s: s})
		}
	case "Nums":
		for n := -9; n < 100; n++ {
			l = append(l, value{nums: []int{n}})
		}
	case "Texts":
		l = append(l, value{texts: []string{""}})
	}
	return l
}

// P1.4 and P1: whatever string is read, nothing panics, and only encodings are read.
func FuzzRead(f *testing.F) {
	for _, s := range words() {
		f.Add(s)
	}
	for _, l := range noEncodings() {
		for _, s := range l {
			f.Add(s)
		}
	}
	for _, m := range methods() {
		for _, v := range samples(m.name)[:10] {
			f.Add(m.write(v))
			f.Add(m.write(v) + m.write(v))
		}
	}
	f.Fuzz(func(t *testing.T, s string) {
		for _, m := range methods() {
			checkExact(t, m, s)
		}
		r := wire.Open(wire.Text(s))
		if r.Text() != s || !r.Done() {
			t.Errorf("%q is not read back", s)
		}
	})
}

// P1.5: encodings can stand one after the other.
func TestOneAfterTheOther(t *testing.T) {
	var b strings.Builder
	for range 3 {
		for _, m := range methods() {
			for _, v := range samples(m.name) {
				b.WriteString(m.write(v))
			}
		}
	}
	r := wire.Open(b.String())
	for range 3 {
		for _, m := range methods() {
			for _, v := range samples(m.name) {
				if r.Done() || !m.read(r).equal(v) {
					t.Fatalf("%s: %.60q is not read", m.name, m.write(v))
				}
			}
		}
	}
	if !r.Done() {
		t.Errorf("%d bytes are left", r.Left())
	}
}

// P1.5: the encoding of a string may contain any encodings, also those of strings and lists that contain others.
func TestInOneAnother(t *testing.T) {
	for _, m := range methods() {
		for _, v := range samples(m.name) {
			s := m.write(v)
			r := wire.Open(wire.Texts([]string{"", wire.Text(s) + s, s}) + wire.Text(wire.Text(wire.Text(s))) + s)
			l := r.Texts()
			if len(l) != 3 || l[0] != "" || l[2] != s {
				t.Fatalf("%s: %.60q is not read from a list", m.name, s)
			}
			in := wire.Open(l[1])
			if in.Text() != s || !m.read(in).equal(v) || !in.Done() {
				t.Errorf("%s: %.60q is not read from an element", m.name, s)
			}
			if deep := wire.Open(wire.Open(r.Text()).Text()).Text(); deep != s {
				t.Errorf("%s: %.60q is read as %.60q from three levels", m.name, s, deep)
			}
			if !m.read(r).equal(v) || !r.Done() {
				t.Errorf("%s: %.60q is not read at the end", m.name, s)
			}
		}
	}
}

// P1.5: a string that is nested a thousand times comes out again.
func TestDeepNesting(t *testing.T) {
	s := "2[1;-1;]"
	for range 1000 {
		s = wire.Text(s)
	}
	for range 1000 {
		r := wire.Open(s)
		if s = r.Text(); !r.Done() {
			t.Fatal("a level is not read")
		}
	}
	if s != "2[1;-1;]" {
		t.Errorf("came out as %q", s)
	}
}
