package wire_test

import (
	"math"
	"slices"
	"strings"
	"testing"

	"lading/wire"
)

// value is what one of the reading methods returned: the field of its kind.
type value struct {
	n     int
	s     string
	nums  []int
	texts []string
}

func (v value) none() bool {
	return v.n == 0 && v.s == "" && len(v.nums) == 0 && len(v.texts) == 0
}

func (v value) equal(w value) bool {
	return v.n == w.n && v.s == w.s && slices.Equal(v.nums, w.nums) && slices.Equal(v.texts, w.texts)
}

// method is one of the kinds of values: how it is read and written.
type method struct {
	name  string
	read  func(r *wire.Reader) value
	write func(v value) string
}

func methods() []method {
	return []method{
		{"Num", func(r *wire.Reader) value { return value{n: r.Num()} }, func(v value) string { return wire.Num(v.n) }},
		{"Int", func(r *wire.Reader) value { return value{n: r.Int()} }, func(v value) string { return wire.Int(v.n) }},
		{"Text", func(r *wire.Reader) value { return value{s: r.Text()} }, func(v value) string { return wire.Text(v.s) }},
		{"Nums", func(r *wire.Reader) value { return value{nums: r.Nums()} }, func(v value) string { return wire.Nums(v.nums) }},
		{"Texts", func(r *wire.Reader) value { return value{texts: r.Texts()} }, func(v value) string { return wire.Texts(v.texts) }},
	}
}

func find(t *testing.T, name string) method {
	t.Helper()
	for _, m := range methods() {
		if m.name == name {
			return m
		}
	}
	t.Fatalf("no method %s", name)
	return method{}
}

// checkFailed requires that r has failed, and that nothing can be read from it, however often it is tried.
func checkFailed(t *testing.T, r *wire.Reader, what string) {
	t.Helper()
	for range 2 {
		if r.Left() != 0 || r.Done() {
			t.Errorf("%.60q: Left %d, Done %v after a failure", what, r.Left(), r.Done())
		}
		for _, m := range methods() {
			if v := m.read(r); !v.none() {
				t.Errorf("%.60q: %s returned %.60q after a failure", what, m.name, m.write(v))
			}
		}
		if s := r.Rest(); s != "" {
			t.Errorf("%.60q: Rest returned %q after a failure", what, s)
		}
	}
	if r.Left() != 0 || r.Done() {
		t.Errorf("%.60q: Left %d, Done %v at last", what, r.Left(), r.Done())
	}
}

// P1.2: the value that stands there is returned, whatever follows it, and the reader moves after it.
func TestReadValues(t *testing.T) {
	long := strings.Repeat("0:,", 5000)
	for _, c := range []struct {
		method, s string
		want      value
	}{
		{"Num", "0;", value{}}, {"Num", "7;", value{n: 7}}, {"Num", "10;", value{n: 10}}, {"Num", "1234567890;", value{n: 1234567890}},
		{"Num", "9223372036854775799;", value{n: math.MaxInt - 8}}, {"Num", "9223372036854775807;", value{n: math.MaxInt}},
		{"Int", "0;", value{}}, {"Int", "1;", value{n: 1}}, {"Int", "-1;", value{n: -1}}, {"Int", "-10;", value{n: -10}}, {"Int", "-1234567890;", value{n: -1234567890}},
		{"Int", "9223372036854775807;", value{n: math.MaxInt}}, {"Int", "-9223372036854775807;", value{n: math.MinInt + 1}},
		{"Int", "-9223372036854775808;", value{n: math.MinInt}},
		{"Text", "0:,", value{}}, {"Text", "1:a,", value{s: "a"}}, {"Text", "3:a,b,", value{s: "a,b"}}, {"Text", "1:,,", value{s: ","}},
		{"Text", "3:0:,,", value{s: "0:,"}}, {"Text", "2:1;,", value{s: "1;"}}, {"Text", "10:0123456789,", value{s: "0123456789"}},
		{"Text", "4:\x00\xff\n\x80,", value{s: "\x00\xff\n\x80"}}, {"Text", "2:é,", value{s: "é"}}, {"Text", "15000:" + long + ",", value{s: long}},
		{"Nums", "0[]", value{}}, {"Nums", "1[0;]", value{nums: []int{0}}}, {"Nums", "2[1;-1;]", value{nums: []int{1, -1}}},
		{"Nums", "10[0;1;2;3;4;5;6;7;8;9;]", value{nums: []int{0, 1, 2, 3, 4, 5, 6, 7, 8, 9}}},
		{"Nums", "2[-9223372036854775808;9223372036854775807;]", value{nums: []int{math.MinInt, math.MaxInt}}},
		{"Texts", "0[]", value{}}, {"Texts", "1[0:,]", value{texts: []string{""}}}, {"Texts", "2[1:x,0:,]", value{texts: []string{"x", ""}}},
		{"Texts", "1[1:],]", value{texts: []string{"]"}}}, {"Texts", "1[6:1[0:,],]", value{texts: []string{"1[0:,]"}}},
		{"Texts", "5000[" + long + "]", value{texts: make([]string, 5000)}},
	} {
		m := find(t, c.method)
		for _, after := range []string{"", "x", ";", ",", "]", "0;", c.s} {
			r := wire.Open(c.s + after)
			if r.Left() != len(c.s+after) || r.Done() {
				t.Fatalf("%s of %.40q: Left %d, Done %v before", c.method, c.s, r.Left(), r.Done())
			}
			if v := m.read(r); !v.equal(c.want) {
				t.Errorf("%s of %.40q is %.40q", c.method, c.s, m.write(v))
			}
			if r.Left() != len(after) || r.Done() != (after == "") {
				t.Errorf("%s of %.40q: Left %d, Done %v with %q after it", c.method, c.s, r.Left(), r.Done(), after)
			}
			if rest := r.Rest(); rest != after || r.Left() != 0 || !r.Done() {
				t.Errorf("%s of %.40q: Rest %.40q, Left %d, Done %v", c.method, c.s, rest, r.Left(), r.Done())
			}
		}
	}
}

// noEncodings are strings at whose beginning no value stands that the method reads.
func noEncodings() map[string][]string {
	digits := []string{
		"", ";", " 1;", "1 ;", "+1;", "a;", "1", "12", "1,", "1:", "1[", "1]", "1.", "1-;", "1a;", "1 2;", ":", ",", "[", "]", "\n1;",
		"00;", "01;", "007;", "00", "0", "0,", "0x1;", "1_0;", "1e3;", "1.5;", "\u0661;", "\xff;", "/;", "1/;", "::",
		"9223372036854775808;", "9223372036854775810;", "9223372036854775817;", "9999999999999999999;", "10000000000000000000;",
		"18446744073709551615;", "18446744073709551616;", "18446744073709551617;", "36893488147419103233;", "92233720368547758070;",
		"340282366920938463463374607431768211457;", strings.Repeat("9", 5000) + ";", strings.Repeat("0", 5000) + "1;", "1" + strings.Repeat("0", 64) + ";",
	}
	sign := []string{
		"-", "-;", "-0;", "-00;", "-01;", "--1;", "- 1;", "-+1;", "-1", "-1,", "-a;", "+0;", "\u22121;",
		"-9223372036854775809;", "-9223372036854775818;", "-10000000000000000000;", "-18446744073709551615;", "-18446744073709551616;",
		"-18446744073709551617;", "-" + strings.Repeat("9", 5000) + ";",
	}
	texts := []string{
		"", ":", ":,", "a", "0", "0:", "0;", "0,", "0:;", "0:a,", "1:", "1:a", "1:a;", "1:a:", "1:a]", "1:ab", "1:ab,", "1:,", "2:a,", "3:ab,", "1a,", "1;a,", "1[a,", "1[a]",
		"00:,", "01:a,", "-0:,", "-1:,", "-1:a,", "+1:a,", " 1:a,", "1 :a,", "1: a,", "1:é,", "a:a,", "4:\x00\xff\n,", "2::,",
		"9223372036854775806:a,", "9223372036854775807:,", "9223372036854775808:,", "18446744073709551616:,", "18446744073709551617:a,",
		"9223372036854775807:" + strings.Repeat("a", 100) + ",", "4294967297:a,", strings.Repeat("9", 5000) + ":,",
	}
	lists := []string{
		"", "[", "[]", "]", "0", "0[", "0]", "0[[", "0[;]", "0[,]", "0[0;]", "0[0:,]", "0;", "0:,", "00[]", "-0[]", "-1[]", "+0[]", " 0[]", "0 []", "0[ ]", "0(]", "0{}", "1[", "1[]", "2[]",
		"1:a,", "1;]", "9223372036854775807[", "9223372036854775807[]", "4611686018427387904[]", "9223372036854775808[]", "18446744073709551616[]",
		"1[x]", "1[1[]]", "1[0[]]", "1[1]", "1[;]", "1[,]", "1[:,]", "1[-0;]",
	}
	nums := []string{
		"1[1;", "1[1;,", "1[1;;", "1[1;}", "1[1]", "1[1,]", "1[1", "1[1;1;]", "1[1;2;]", "2[1;]", "2[1;", "2[1;2]", "2[1;;2;]", "2[1;,2;]", "2[1; 2;]", "3[1;2;]", "01[1;]", "1;1;]", "1:1;]",
		"1[-1;2;]", "1[-0;]", "1[01;]", "2[1;00;]", "2[1;9223372036854775808;]", "2[1;-9223372036854775809;]", "1[+1;]", "1[1:a,]", "2[1;0:,]", "1[1;x]", "-1[1;]", "9223372036854775807[1;]", "2[1;1[1;]]",
	}
	strs := []string{
		"1[1:a,", "1[1:a,,", "1[1:a,;", "1[1:a]", "1[1:a;]", "1[1:a", "1[0:,0:,]", "1[1:a,1:b,]", "2[1:a,]", "2[1:a,", "2[1:a,1:b]", "2[1:a,,1:b,]", "2[1:a,;1:b,]", "2[1:a, 1:b,]", "3[1:a,1:b,]",
		"01[1:a,]", "1;1:a,]", "1:1:a,]", "1[1;]", "1[0;]", "1[2:a,]", "1[01:a,]", "2[0:,00:,]", "1[9223372036854775807:a,]", "1[1:a,x]", "-1[1:a,]", "9223372036854775807[1:a,]", "1[a,]", "2[1:a,1[1:a,]]",
	}
	return map[string][]string{
		"Num":   slices.Concat(digits, sign, []string{"-1;", "-9223372036854775808;", "1:a,", "0[]", "1[1;]"}),
		"Int":   slices.Concat(digits, sign, []string{"1:a,", "0[]", "1[1;]"}),
		"Text":  slices.Concat(texts, []string{"1;", "-1;", "0[]", "1[1;]", "1[1:a,]"}),
		"Nums":  slices.Concat(lists, nums, []string{"1[1:a,]", "1[0:,]"}),
		"Texts": slices.Concat(lists, strs),
	}
}

// P1.2: at strings that are no encoding the reader fails, and stays failed, whatever stands behind them or stood before them.
func TestReadNoEncodings(t *testing.T) {
	table := noEncodings()
	for _, m := range methods() {
		for _, s := range table[m.name] {
			for _, before := range []string{"", "5;", "5;-5;1:a,1[1;]1[0:,]"} {
				r := wire.Open(before + s)
				for i := range strings.Count(before, "5;") {
					if i == 0 && r.Num() != 5 || i == 1 && (r.Int() != -5 || r.Text() != "a" || len(r.Nums()) != 1 || len(r.Texts()) != 1) {
						t.Fatalf("what stands in front of %.40q is not read", s)
					}
				}
				if r.Left() != len(s) {
					t.Fatalf("Left %d in front of %.40q", r.Left(), s)
				}
				if v := m.read(r); !v.none() {
					t.Errorf("%s of %.40q is %.40q", m.name, s, m.write(v))
				}
				checkFailed(t, r, m.name+" of "+s[:min(len(s), 40)])
			}
		}
	}
}

// P1.2: a reader that has failed reads none of the values that stand behind the failure.
func TestReadAfterFailure(t *testing.T) {
	values := "7;-7;1:a,1[1;]1[1:a,]"
	for _, bad := range []string{"x", "-0;", "01;", ";", "2[1;x]", "2[1:a,x]", "1:a;", "0[x", "9223372036854775808;", "1[1;;]"} {
		for _, m := range methods() {
			for _, after := range []string{values, "7;", "-7;", "1:a,", "1[1;]", "1[1:a,]", "]7;", ",7;", ";7;", ""} {
				r := wire.Open(bad + after)
				if v := m.read(r); !v.none() {
					t.Errorf("%s of %q is %.60q", m.name, bad+after, m.write(v))
				}
				checkFailed(t, r, m.name+" of "+bad+after)
			}
		}
	}
}

// P1.2: one failure fails the reader for each of the methods, and not only for the one that failed.
func TestReadFailsForAll(t *testing.T) {
	bad := map[string]string{"Num": "-1;3;", "Int": "a3;", "Text": "1;3;", "Nums": "1:a,3;", "Texts": "1[1;]3;"}
	for _, first := range methods() {
		for _, second := range methods() {
			r := wire.Open("1;" + bad[first.name])
			r.Num()
			first.read(r)
			if v := second.read(r); !v.none() || r.Done() || r.Left() != 0 || r.Rest() != "" || r.Done() {
				t.Errorf("%s after a failure of %s: %.60q", second.name, first.name, second.write(v))
			}
		}
	}
}

// P1.2: Rest, Left and Done at the beginning, in between, at the end, and behind it.
func TestRestLeftDone(t *testing.T) {
	r := wire.Open("")
	if r.Left() != 0 || !r.Done() || r.Rest() != "" || !r.Done() {
		t.Error("an empty string is not at its end")
	}
	r = wire.Open("12;3:a,b,xyz")
	if r.Left() != 12 || r.Done() {
		t.Errorf("Left %d, Done %v at the beginning", r.Left(), r.Done())
	}
	if r.Num() != 12 || r.Left() != 9 || r.Done() {
		t.Errorf("Left %d, Done %v after a number", r.Left(), r.Done())
	}
	if r.Text() != "a,b" || r.Left() != 3 || r.Left() != 3 || r.Done() || r.Done() {
		t.Errorf("Left %d, Done %v after a string", r.Left(), r.Done())
	}
	if s := r.Rest(); s != "xyz" || r.Left() != 0 || !r.Done() {
		t.Errorf("Rest %q, Left %d, Done %v", s, r.Left(), r.Done())
	}
	if s := r.Rest(); s != "" || r.Left() != 0 || !r.Done() {
		t.Errorf("Rest %q, Left %d, Done %v again", s, r.Left(), r.Done())
	}
	// Nothing stands at the end: reading there fails.
	if r.Int() != 0 || r.Done() {
		t.Error("an int stands at the end")
	}
	checkFailed(t, r, "after Rest")
	if s := wire.Open("no encoding").Rest(); s != "no encoding" {
		t.Errorf("Rest %q of a reader that has read nothing", s)
	}
	for _, m := range methods() {
		x := wire.Open("1;")
		x.Num()
		if v := m.read(x); !v.none() {
			t.Errorf("%s reads %.60q at the end", m.name, m.write(v))
		}
		checkFailed(t, x, m.name+" at the end")
	}
}

// P1.2 and P4: readers of one string do not know of each other.
func TestReadersAreIndependent(t *testing.T) {
	s := "1;2;x"
	a, b := wire.Open(s), wire.Open(s)
	if a.Num() != 1 || b.Left() != len(s) || a.Num() != 2 || b.Num() != 1 || a.Num() != 0 || a.Done() {
		t.Error("one reader moves another one")
	}
	if b.Num() != 2 || b.Left() != 1 || b.Rest() != "x" || !b.Done() {
		t.Error("one reader fails another one")
	}
}

// P1.3 and P3: lists that are read share no memory with each other.
func TestReadIsFresh(t *testing.T) {
	s := "2[1;2;]2[1;2;]2[1:a,1:b,]2[1:a,1:b,]"
	r, x := wire.Open(s), wire.Open(s)
	n1, n2, t1, t2 := r.Nums(), r.Nums(), r.Texts(), r.Texts()
	n3 := x.Nums()
	if len(n1) != 2 || len(t1) != 2 {
		t.Fatalf("read %v and %q", n1, t1)
	}
	n1[0], t1[0] = 9, "z"
	_, _ = append(n1, 8), append(t1, "y")
	if !slices.Equal(n2, []int{1, 2}) || !slices.Equal(n3, []int{1, 2}) || !slices.Equal(t2, []string{"a", "b"}) {
		t.Errorf("changed to %v, %v and %q", n2, n3, t2)
	}
	if again := wire.Open(s).Nums(); !slices.Equal(again, []int{1, 2}) {
		t.Errorf("read again as %v", again)
	}
}
