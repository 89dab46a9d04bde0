package wire_test

import (
	"math"
	"slices"
	"strings"
	"testing"

	"lading/wire"
)

// P1.1: the encoding of a number, and the empty string for negative ints.
func TestNum(t *testing.T) {
	for _, c := range []struct {
		n    int
		want string
	}{
		{0, "0;"}, {1, "1;"}, {7, "7;"}, {9, "9;"}, {10, "10;"}, {300, "300;"}, {1000000, "1000000;"},
		{1<<31 - 1, "2147483647;"}, {1 << 31, "2147483648;"}, {1 << 32, "4294967296;"},
		{1<<53 + 1, "9007199254740993;"}, {math.MaxInt - 1, "9223372036854775806;"}, {math.MaxInt, "9223372036854775807;"},
		{-1, ""}, {-7, ""}, {-10, ""}, {-1 << 31, ""}, {-1 << 32, ""}, {math.MinInt + 1, ""}, {math.MinInt, ""},
	} {
		if got := wire.Num(c.n); got != c.want {
			t.Errorf("Num(%d) = %q, not %q", c.n, got, c.want)
		}
	}
}

// P1.1: the encoding of an int, with its sign in front of the digits.
func TestInt(t *testing.T) {
	for _, c := range []struct {
		n    int
		want string
	}{
		{0, "0;"}, {1, "1;"}, {-1, "-1;"}, {7, "7;"}, {-7, "-7;"}, {-9, "-9;"}, {-10, "-10;"}, {300, "300;"}, {-300, "-300;"},
		{1 << 31, "2147483648;"}, {-1 << 31, "-2147483648;"}, {-1<<31 - 1, "-2147483649;"}, {-1 << 32, "-4294967296;"},
		{math.MaxInt, "9223372036854775807;"}, {math.MinInt + 1, "-9223372036854775807;"}, {math.MinInt, "-9223372036854775808;"},
	} {
		if got := wire.Int(c.n); got != c.want {
			t.Errorf("Int(%d) = %q, not %q", c.n, got, c.want)
		}
	}
}

// P1.1: the encoding of a string, whose length counts bytes.
func TestText(t *testing.T) {
	for _, c := range []struct{ s, want string }{
		{"", "0:,"}, {"a", "1:a,"}, {"a,b", "3:a,b,"}, {"hello", "5:hello,"}, {"123456789", "9:123456789,"}, {"1234567890", "10:1234567890,"},
		{";", "1:;,"}, {",", "1:,,"}, {":", "1::,"}, {"[]", "2:[],"}, {"1;", "2:1;,"}, {"0:,", "3:0:,,"}, {"1:a,", "4:1:a,,"},
		{"2[1;-1;]", "8:2[1;-1;],"}, {"1[0:,]", "6:1[0:,],"}, {" ", "1: ,"}, {"\n", "1:\n,"}, {"\x00", "1:\x00,"}, {`"\`, `2:"\,`},
		{"é", "2:é,"}, {"€", "3:€,"}, {"\xff\xfe", "2:\xff\xfe,"}, {"\u2028x", "4:\u2028x,"},
	} {
		if got := wire.Text(c.s); got != c.want {
			t.Errorf("Text(%q) = %q, not %q", c.s, got, c.want)
		}
	}
	for _, n := range []int{99, 100, 65536, 1 << 20} {
		s := strings.Repeat("x", n)
		head, tail, _ := strings.Cut(wire.Text(s), ":")
		if head != digits(n) || tail != s+"," {
			t.Errorf("Text of %d bytes begins with %q and goes on with %d bytes", n, head, len(tail))
		}
	}
}

// P1.1: the encoding of a list of ints, each of them by Int.
func TestNums(t *testing.T) {
	for _, c := range []struct {
		l    []int
		want string
	}{
		{nil, "0[]"}, {[]int{}, "0[]"}, {[]int{0}, "1[0;]"}, {[]int{5}, "1[5;]"}, {[]int{-5}, "1[-5;]"}, {[]int{1, -1}, "2[1;-1;]"}, {[]int{-1, 1}, "2[-1;1;]"},
		{[]int{3, 3, 3}, "3[3;3;3;]"}, {[]int{math.MinInt, 0, math.MaxInt}, "3[-9223372036854775808;0;9223372036854775807;]"},
		{[]int{9, 8, 7, 6, 5, 4, 3, 2, 1, 0}, "10[9;8;7;6;5;4;3;2;1;0;]"},
		{make([]int, 12), "12[0;0;0;0;0;0;0;0;0;0;0;0;]"},
	} {
		if got := wire.Nums(c.l); got != c.want {
			t.Errorf("Nums(%v) = %q, not %q", c.l, got, c.want)
		}
	}
}

// P1.1: the encoding of a list of strings, each of them by Text.
func TestTexts(t *testing.T) {
	for _, c := range []struct {
		l    []string
		want string
	}{
		{nil, "0[]"}, {[]string{}, "0[]"}, {[]string{""}, "1[0:,]"}, {[]string{"", ""}, "2[0:,0:,]"}, {[]string{"", "x"}, "2[0:,1:x,]"},
		{[]string{"x", ""}, "2[1:x,0:,]"}, {[]string{"b", "a", "b"}, "3[1:b,1:a,1:b,]"}, {[]string{"1[0:,]"}, "1[6:1[0:,],]"}, {[]string{"]"}, "1[1:],]"},
		{[]string{"é", "\xff"}, "2[2:é,1:\xff,]"}, {strings.Split("0123456789", ""), "10[1:0,1:1,1:2,1:3,1:4,1:5,1:6,1:7,1:8,1:9,]"},
		{[]string{"0123456789"}, "1[10:0123456789,]"},
	} {
		if got := wire.Texts(c.l); got != c.want {
			t.Errorf("Texts(%q) = %q, not %q", c.l, got, c.want)
		}
	}
}

// P1.3 and P3: writing changes no argument, and touches nothing beyond the length of a slice.
func TestWriteKeepsArguments(t *testing.T) {
	nums, texts := []int{3, -1, 2, 9}, []string{"c", "", "b", "z"}
	if got := wire.Nums(nums[:3]); got != "3[3;-1;2;]" {
		t.Errorf("Nums = %q", got)
	}
	if got := wire.Texts(texts[:3]); got != "3[1:c,0:,1:b,]" {
		t.Errorf("Texts = %q", got)
	}
	if !slices.Equal(nums, []int{3, -1, 2, 9}) || !slices.Equal(texts, []string{"c", "", "b", "z"}) {
		t.Errorf("changed to %v and %q", nums, texts)
	}
}

// P4: what was written before makes no difference.
func TestWriteAgain(t *testing.T) {
	nums, texts := []int{1, -2}, []string{"a", "b"}
	first := wire.Num(5) + wire.Int(-5) + wire.Text("t") + wire.Nums(nums) + wire.Texts(texts)
	wire.Nums([]int{4, 4, 4})
	wire.Text("another one")
	if again := wire.Num(5) + wire.Int(-5) + wire.Text("t") + wire.Nums(nums) + wire.Texts(texts); again != first {
		t.Errorf("%q and then %q", first, again)
	}
	nums[0], texts[0] = 7, "q"
	if wire.Nums(nums) != "2[7;-2;]" || wire.Texts(texts) != "2[1:q,1:b,]" {
		t.Error("a list that changed is encoded as before")
	}
}

// digits are the decimal digits of n, which is positive, without the help of what is tested.
func digits(n int) string {
	s := ""
	for ; n > 0; n /= 10 {
		s = string(rune('0'+n%10)) + s
	}
	return s
}
