// Package wire is layer 1, a canonical encoding of integers, strings and lists as text: see shared/doc/01-wire.md.
package wire

import (
	"math"
	"strconv"
	"strings"
)

// Num returns the encoding of an int as a number: the empty string, if it is negative.
func Num(n int) string {
	if n < 0 {
		return ""
	}
	return Int(n)
}

// Int returns the encoding of an int.
func Int(n int) string { return strconv.Itoa(n) + ";" }

// Text returns the encoding of a string.
func Text(s string) string { return strconv.Itoa(len(s)) + ":" + s + "," }

// Nums returns the encoding of a list of ints.
func Nums(l []int) string { return writeList(l, Int) }

// Texts returns the encoding of a list of strings.
func Texts(l []string) string { return writeList(l, Text) }

// writeList returns the encoding of a list of which write encodes the elements.
func writeList[T any](l []T, write func(T) string) string {
	var b strings.Builder
	b.WriteString(strconv.Itoa(len(l)))
	b.WriteByte('[')
	for _, x := range l {
		b.WriteString(write(x))
	}
	b.WriteByte(']')
	return b.String()
}

// Reader reads the values whose encodings stand one after the other in a string.
type Reader struct {
	rest   string // empty in a reader that has failed, so that all that it reads later fails as well
	failed bool
}

// Open returns a reader at the beginning of a string.
func Open(s string) *Reader { return &Reader{rest: s} }

// Num reads a number.
func (r *Reader) Num() int { return r.count(';') }

// Int reads an int.
func (r *Reader) Int() int {
	if !strings.HasPrefix(r.rest, "-") {
		return r.Num()
	}
	r.rest = r.rest[1:]
	// The absolute value of the least int is no int, so the sign is taken while the value is unsigned.
	n := r.digits(1<<63, ';')
	if n == 0 {
		r.fail()
	}
	return int(-n)
}

// Text reads a string.
func (r *Reader) Text() string {
	n := r.count(':')
	if n >= len(r.rest) || r.rest[n] != ',' {
		r.fail()
		return ""
	}
	s := r.rest[:n]
	r.rest = r.rest[n+1:]
	return s
}

// Nums reads a list of ints.
func (r *Reader) Nums() []int { return readList(r, r.Int) }

// Texts reads a list of strings.
func (r *Reader) Texts() []string { return readList(r, r.Text) }

// readList reads a list of which read, a method of r, reads the elements.
func readList[T any](r *Reader, read func() T) []T {
	n := r.count('[')
	// The list grows with what is read: a length that is stated may be far greater than what follows it.
	var l []T
	for i := 0; i < n && !r.failed; i++ {
		l = append(l, read())
	}
	if !strings.HasPrefix(r.rest, "]") {
		r.fail()
		return nil
	}
	r.rest = r.rest[1:]
	return l
}

// Rest returns the bytes that have not been read, and moves the reader to the end.
func (r *Reader) Rest() string {
	s := r.rest
	r.rest = ""
	return s
}

// Left returns the number of bytes that have not been read.
func (r *Reader) Left() int { return len(r.rest) }

// Done reports whether the reader has not failed, and everything was read.
func (r *Reader) Done() bool { return !r.failed && r.rest == "" }

// count reads the digits of an int, and the byte end after them.
func (r *Reader) count(end byte) int { return int(r.digits(math.MaxInt, end)) }

// digits reads the digits of an integer that is at most most (9 or more), and the byte end after them; 0 if it fails.
func (r *Reader) digits(most uint64, end byte) uint64 {
	n, i := uint64(0), 0
	for ; i < len(r.rest) && '0' <= r.rest[i] && r.rest[i] <= '9'; i++ {
		d := uint64(r.rest[i] - '0')
		if n > (most-d)/10 {
			r.fail()
			return 0
		}
		n = n*10 + d
	}
	padded := i > 1 && r.rest[0] == '0'
	if i == 0 || padded || i == len(r.rest) || r.rest[i] != end {
		r.fail()
		return 0
	}
	r.rest = r.rest[i+1:]
	return n
}

// fail makes this read and all later ones fail.
func (r *Reader) fail() { r.rest, r.failed = "", true }
