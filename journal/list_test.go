package journal_test

import (
	"fmt"
	"math"
	"math/big"
	"math/rand"
	"slices"
	"strings"
	"testing"

	"lading/api"
	"lading/disk"
	"lading/journal"
)

const limit = 1 << 24 // the most bytes that a file can have

// noFiles are numbers that are no file.
func noFiles() []int {
	return []int{-1, -2, -15, -16, 16, 17, 32, 256, 1 << 32, 1<<32 + 3, math.MaxInt, math.MinInt, math.MinInt + 3}
}

// zeros returns n bytes 0.
func zeros(n int) string { return strings.Repeat("\x00", n) }

// someBytes returns n bytes of any values.
func someBytes(r *rand.Rand, n int) string {
	b := make([]byte, n)
	r.Read(b)
	return string(b)
}

// ok requires that each of the calls returned OK.
func ok(t *testing.T, l ...api.Errno) {
	t.Helper()
	fails(t, api.OK, l...)
}

// fails requires that each of the calls returned the error.
func fails(t *testing.T, want api.Errno, l ...api.Errno) {
	t.Helper()
	for i, e := range l {
		if e != want {
			t.Fatalf("call %d returned %d, not %d", i, e, want)
		}
	}
}

// has requires that a file has these bytes.
func has(t *testing.T, d *disk.Disk, file int, want string) {
	t.Helper()
	if s, e := d.Read(file, 0, limit); s != want || e != api.OK {
		t.Errorf("file %d is %.300q (%d), not %.300q", file, s, e, want)
	}
}

// lists requires that a journal has these records.
func lists(t *testing.T, j *journal.Journal, want []string) {
	t.Helper()
	if why := differs(j, want); why != "" {
		t.Error(why)
	}
}

// differs returns where a journal can be seen to have other records.
func differs(j *journal.Journal, want []string) string {
	if all := j.All(); !slices.Equal(all, want) {
		return fmt.Sprintf("All is %.300q, not %.300q", all, want)
	}
	if n := j.Len(); n != len(want) {
		return fmt.Sprintf("Len is %d, not %d", n, len(want))
	}
	for i, s := range want {
		if got := j.Get(i); got != s {
			return fmt.Sprintf("Get(%d) is %.300q, not %.300q", i, got, s)
		}
	}
	for _, i := range []int{-1, -2, len(want), len(want) + 1, math.MinInt, math.MaxInt} {
		if s := j.Get(i); s != "" {
			return fmt.Sprintf("Get(%d) is %.300q, with %d records", i, s, len(want))
		}
	}
	return ""
}

// holding returns a disk of which a file has these durable bytes.
func holding(t *testing.T, file int, s string) *disk.Disk {
	t.Helper()
	d := disk.New()
	ok(t, d.Write(file, 0, s), d.Sync(file))
	return d
}

// open returns the journal of a file that can be opened.
func open(t *testing.T, d *disk.Disk, file int) *journal.Journal {
	t.Helper()
	j, e := journal.Open(d, file)
	if e != api.OK || j == nil {
		t.Fatalf("Open returned %d", e)
	}
	return j
}

// refuses requires that Open of a file returns nil and the error.
func refuses(t *testing.T, d *disk.Disk, file int, want api.Errno) {
	t.Helper()
	if j, e := journal.Open(d, file); j != nil || e != want {
		t.Fatalf("Open of the file %d returned %v, %d, not nil, %d", file, j, e, want)
	}
}

// The examples of the chapter.
func TestExamples(t *testing.T) {
	for s, want := range map[string]int{"": 0, "a": 97, "ab": 293} {
		if got := journal.Sum(s); got != want {
			t.Errorf("Sum(%q) is %d, not %d", s, got, want)
		}
	}
	d := disk.New()
	j := open(t, d, 0)
	ok(t, j.Append("ab"), j.Append(""))
	has(t, d, 0, "2:ab,293;0:,0;")
	d = holding(t, 0, "2:ab,293;1:a,98;")
	lists(t, open(t, d, 0), []string{"ab"})
	has(t, d, 0, "2:ab,293;")
}

// P3.1: the sum, whose positions begin with 1, and which is less than 2^31 - 1.
func TestSum(t *testing.T) {
	for s, want := range map[string]int{
		"\x00": 0, "\x01": 1, "\xff": 255, "ba": 292, "\x01\x00": 1, "\x00\x01": 2, "\x00\x00\x01": 3, "\x01\x01\x01\x01": 10, "\x80\x7f": 382,
		"\xc3\xa9":   533, // bytes, not runes
		zeros(20000): 0, zeros(19999) + "\x01": 20000, strings.Repeat("\xff", 20000): 1610426119, strings.Repeat("\xff", 4000): 2040510000,
	} {
		if got := journal.Sum(s); got != want {
			t.Errorf("Sum of %.20q with %d bytes is %d, not %d", s, len(s), got, want)
		}
	}
}

// heavy returns a record with this sum before the modulus is taken.
func heavy(sum int) string {
	b := make([]byte, 20000)
	for i := len(b); i > 0; i-- {
		b[i-1] = byte(min(255, sum/i))
		sum -= i * int(b[i-1])
	}
	return string(b)
}

// P3.1: the sum about multiples of 2^31 - 1.
func TestSumWraps(t *testing.T) {
	for times := 1; times < 23; times++ {
		for less, want := range []int{0, 2147483646, 2147483645} {
			s := heavy(times*2147483647 - less)
			if got := journal.Sum(s); got != want {
				t.Errorf("%d times the modulus, less %d: %d, not %d", times, less, got, want)
			}
		}
		if got := journal.Sum(heavy(times*2147483647 + 5)); got != 5 {
			t.Errorf("%d times the modulus and 5: %d", times, got)
		}
	}
}

// P3.1: sums of any strings, longer ones than a record may be among them.
func TestSumAny(t *testing.T) {
	r := rand.New(rand.NewSource(3))
	for i := range 200 {
		s := someBytes(r, r.Intn(1<<(i%18)))
		want := new(big.Int)
		for k := range len(s) {
			want.Add(want, big.NewInt(int64(k+1)*int64(s[k])))
		}
		if got := journal.Sum(s); int64(got) != want.Mod(want, big.NewInt(1<<31-1)).Int64() {
			t.Fatalf("Sum of %d bytes is %d, not %v", len(s), got, want)
		}
	}
}

// P3.1: the sum of a string so long that an int does not hold the sum before the modulus is taken.
func TestSumLong(t *testing.T) {
	n := int64(1<<28 + 1<<20)
	want := new(big.Int).Mul(big.NewInt(n), big.NewInt(n+1))
	want.Mul(want, big.NewInt(255)).Rsh(want, 1)
	if want.IsInt64() {
		t.Fatal("the string is too short")
	}
	if got := journal.Sum(strings.Repeat("\xff", int(n))); int64(got) != want.Mod(want, big.NewInt(1<<31-1)).Int64() {
		t.Errorf("%d, not %v", got, want)
	}
}

// form returns the form of a record, in the words of the document. (The records of the tests are so short that the sum fits.)
func form(record string) string {
	sum := 0
	for i := range len(record) {
		sum += (i + 1) * int(record[i])
	}
	return fmt.Sprintf("%d:%s,%d;", len(record), record, sum%2147483647)
}

// forms returns the forms of records.
func forms(l []string) string {
	s := ""
	for _, x := range l {
		s += form(x)
	}
	return s
}

// recordsOf returns the records of a string, in the words of the document, and where the reading stops.
func recordsOf(s string) ([]string, int) {
	var l []string
	at := 0
	for {
		var n int
		head, rest, _ := strings.Cut(s[at:], ":")
		if _, err := fmt.Sscanf(head, "%d", &n); err != nil || n < 0 || n > 20000 || n > len(rest) {
			return l, at
		}
		if !strings.HasPrefix(s[at:], form(rest[:n])) {
			return l, at
		}
		l = append(l, rest[:n])
		at += len(form(rest[:n]))
	}
}

// P3.1: the records of what may stand in a file; what follows them is cut off, and durably so.
func TestOpenReads(t *testing.T) {
	big, tooBig := strings.Repeat("b", 20000), strings.Repeat("b", 20001)
	ring := heavy(2*2147483647 + 7)
	for _, c := range []struct {
		whole []string
		torn  string
	}{
		{nil, ""}, {[]string{""}, ""}, {[]string{"a"}, ""}, {[]string{"", "", ""}, ""}, {[]string{"a", "", "b"}, ""},
		{[]string{"1:a,97;", "0:,0;"}, ""}, {[]string{",", ";", ":", "1", "\x00", "\xff\xfe"}, ""}, {[]string{zeros(300), zeros(1)}, ""},
		{[]string{big, "x", big}, ""}, {[]string{big[1:]}, ""}, {[]string{ring, ring}, ""},
		{nil, "x"}, {nil, "0"}, {nil, ":"}, {nil, ","}, {nil, ";"}, {nil, "\x00"}, {nil, zeros(100)}, {nil, zeros(64) + "1:a,97;"}, {nil, " 1:a,97;"}, {nil, "-"},
		{nil, "1:a,97"}, {nil, "1:a,"}, {nil, "1:a"}, {nil, "1:"}, {nil, "1"}, {nil, "0:,0"}, {nil, "0:,"}, {nil, "0:"},
		{nil, "1:a,98;"}, {nil, "1:a,96;"}, {nil, "1:a,0;"}, {nil, "1:a,2147483744;"}, {nil, "1:a,-97;"}, {nil, "1:a,+97;"}, {nil, "1:a,097;"}, {nil, "1:a, 97;"}, {nil, "1:a,97:"}, {nil, "1:a,97,"}, {nil, "1:a,97\x00"}, {nil, "1:a,;"}, {nil, "0:,-0;"}, {nil, "0:,00;"},
		{nil, "1:a;97;"}, {nil, "1;a,97;"}, {nil, "1,a,97;"}, {nil, "1[a]97;"}, {nil, "01:a,97;"}, {nil, "+1:a,97;"}, {nil, "-1:a,97;"}, {nil, "2:a,97;"}, {nil, "0:a,97;"}, {nil, "00:,0;"}, {nil, "-0:,0;"}, {nil, "1:\x00,97;"}, {nil, "2:ab,292;"}, {nil, "2:ba,293;"}, {nil, "5:a,97;b"},
		{nil, "9223372036854775807:a,97;"}, {nil, "9223372036854775808:a,97;"}, {nil, "18446744073709551617:a,97;"}, {nil, "1:a,18446744073709551713;"}, {nil, strings.Repeat("9", 300)}, {nil, zeros(1) + strings.Repeat("0", 300)},
		{nil, form(tooBig)}, {nil, form(tooBig + "bbb")}, {[]string{"a"}, form(tooBig) + form("b")}, {nil, "20001:" + big + ",0;"}, {nil, "20000:" + big + ",0;"},
		{nil, "20000:" + ring + ",4294967301;"}, {nil, "20000:" + ring + ",2147483654;"},
		{[]string{"a"}, "x"}, {[]string{"a"}, "1:b,"}, {[]string{"a"}, "1:b,97;"}, {[]string{"a"}, "\x00"}, {[]string{"a"}, zeros(200)}, {[]string{"a", "b"}, "x" + form("c")}, {[]string{"a", "b"}, "1:c,98;" + form("c")}, {[]string{"", ""}, "0"}, {[]string{big}, big}, {[]string{"a"}, ";" + form("b")}, {[]string{"a"}, "\n" + form("b")},
	} {
		good := forms(c.whole)
		for _, file := range []int{0, 5, 15} {
			d := disk.New()
			other := form("other") + "torn"
			ok(t, d.Write((file+1)%16, 0, other), d.Write(file, 0, good+c.torn))
			lists(t, open(t, d, file), c.whole)
			has(t, d, file, good)
			has(t, d, (file+1)%16, other)
			d.Crash(nil)
			d.Start()
			has(t, d, file, good)
			if has(t, d, (file+1)%16, ""); t.Failed() {
				t.Fatalf("records %.100q, torn %.100q", c.whole, c.torn)
			}
		}
		if l, n := recordsOf(good + c.torn); !slices.Equal(l, c.whole) || n != len(good) {
			t.Fatalf("the test reads %.100q", l) // what the other tests compare with
		}
	}
}

// P3.1: a file with more bytes than a list can get by Append.
func TestOpenLong(t *testing.T) {
	big := strings.Repeat("b", 20000)
	count := 3 * journal.Max / len(form(big))
	l := slices.Repeat([]string{big}, count)
	d := holding(t, 2, forms(l))
	ok(t, d.Write(2, 4*journal.Max-1, "x"))
	j := open(t, d, 2)
	lists(t, j, l)
	if n := d.Size(2); n != count*len(form(big)) {
		t.Errorf("the file has %d bytes", n)
	}
	fails(t, api.ErrFull, j.Append(""), j.Append(big))
	fails(t, api.ErrRange, j.Append(big+"b"))
	ok(t, j.Sync())
	lists(t, j, l)
}

// P3.1: no file, which comes before the errors of the disk; no call is performed then.
func TestOpenNoFile(t *testing.T) {
	for _, file := range noFiles() {
		d := holding(t, 0, "torn")
		ok(t, d.Write(3, 0, "new"))
		d.Lose(1)
		d.Arm(1, nil)
		was := state(d)
		refuses(t, d, file, api.ErrArg)
		if state(d) != was {
			t.Errorf("Open of the file %d changed the disk", file)
		}
		d.Crash(nil)
		refuses(t, d, file, api.ErrArg)
	}
}

// P3.1: the calls of Open, in their order, up to the first error.
func TestOpenCalls(t *testing.T) {
	whole, torn := form("a")+form("b"), form("a")+"torn"
	for i, c := range []struct {
		prepare func(d *disk.Disk)
		file    string
		want    api.Errno
		left    string // in the file after the next crash
		calls   int    // how many calls of the disk count for Arm
	}{
		{func(d *disk.Disk) {}, whole, api.OK, whole, 1},
		{func(d *disk.Disk) {}, torn, api.OK, form("a"), 2},
		{func(d *disk.Disk) {}, "", api.OK, "", 1},
		{func(d *disk.Disk) { d.Crash([]int{1}) }, torn, api.ErrDown, torn, 0},
		{func(d *disk.Disk) { d.Crash(nil) }, torn, api.ErrDown, "", 0},
		{func(d *disk.Disk) { d.Lose(1) }, whole, api.ErrLost, "", 1},
		{func(d *disk.Disk) { d.Lose(1) }, torn, api.ErrLost, "", 1},
		{func(d *disk.Disk) { d.Arm(1, nil) }, torn, api.ErrDown, "", 0},
		{func(d *disk.Disk) { d.Arm(1, []int{1}) }, torn, api.ErrDown, torn, 0},
		{func(d *disk.Disk) { d.Arm(2, nil) }, torn, api.ErrDown, torn, 0}, // synced, and not truncated
		{func(d *disk.Disk) { d.Arm(2, nil) }, whole, api.OK, whole, 1},
		{func(d *disk.Disk) { d.Arm(3, nil) }, torn, api.OK, form("a"), 2},
		{func(d *disk.Disk) { d.Lose(1); d.Arm(2, nil) }, torn, api.ErrLost, "", 1},
		{func(d *disk.Disk) { d.Lose(1); d.Arm(1, nil) }, torn, api.ErrDown, "", 0},
	} {
		d := disk.New()
		ok(t, d.Write(4, 0, c.file))
		c.prepare(d)
		if j, e := journal.Open(d, 4); e != c.want || (j == nil) != (e != api.OK) {
			t.Fatalf("case %d: %v, %d", i, j, e)
		}
		if d.Down() != (c.want == api.ErrDown) {
			t.Fatalf("case %d: Down is %v", i, d.Down())
		}
		d.Crash(nil)
		d.Start()
		if has(t, d, 4, c.left); t.Failed() {
			t.Fatalf("case %d", i)
		}
		if c.calls > 0 {
			checkOpenCounts(t, c.prepare, c.file, c.calls)
		}
	}
}

// checkOpenCounts requires that Open performs this many calls that count for Arm, if no crash comes before.
func checkOpenCounts(t *testing.T, prepare func(d *disk.Disk), file string, calls int) {
	t.Helper()
	for n := 1; n <= calls+1; n++ {
		d := disk.New()
		ok(t, d.Write(4, 0, file))
		prepare(d)
		d.Arm(n, nil)
		if journal.Open(d, 4); d.Down() != (n <= calls) {
			t.Fatalf("%q: the call %d, of %d, is not the last one", file, n, calls)
		}
	}
}

// P3.2: records are appended at the end of the list, and stand in the file at once.
func TestAppend(t *testing.T) {
	l := []string{"a", "", "b,1:", "", zeros(70), "\xff", "1:a,97;", strings.Repeat("x", 20000), "\xc3\xa9", "0", strings.Repeat("y", 19999), ""}
	for _, before := range []string{"", form("old"), form("") + form("older") + "torn"} {
		d := holding(t, 15, before)
		j := open(t, d, 15)
		want := j.All()
		for _, s := range l {
			ok(t, j.Append(s))
			want = append(want, s)
			lists(t, j, want)
			has(t, d, 15, forms(want))
		}
		lists(t, open(t, d, 15), want)
	}
}

// P3.2: what Append writes is not durable before the next Sync.
func TestAppendIsPending(t *testing.T) {
	d := disk.New()
	j := open(t, d, 1)
	ok(t, j.Append("a"), j.Append(strings.Repeat("b", 100)), j.Sync(), j.Append("c"))
	for _, c := range []struct {
		keep []int
		want string
	}{{nil, form("a") + form(strings.Repeat("b", 100))}, {[]int{1}, form("a") + form(strings.Repeat("b", 100)) + form("c")}} {
		x := d.Copy()
		x.Crash(c.keep)
		x.Start()
		has(t, x, 1, c.want)
	}
}

// P3.2: a record that is too long, even where others would fit no more; the journal goes on.
func TestAppendRange(t *testing.T) {
	d := disk.New()
	j := open(t, d, 0)
	d.Arm(1, nil)
	for _, n := range []int{20001, 20002, 30000, 1 << 20, 1 << 24} {
		fails(t, api.ErrRange, j.Append(strings.Repeat("x", n)))
		lists(t, j, nil)
	}
	if d.Down() || d.Size(0) != 0 {
		t.Fatal("a call of the disk was made")
	}
	d.Arm(0, nil)
	ok(t, j.Append(strings.Repeat("x", 20000)), j.Append("y"), j.Sync())
	lists(t, open(t, d, 0), []string{strings.Repeat("x", 20000), "y"})
}

// filled returns a journal whose length is less than Max by this number of bytes, and its records.
func filled(t *testing.T, d *disk.Disk, left int) (*journal.Journal, []string) {
	t.Helper()
	j := open(t, d, 0)
	l := append(slices.Repeat([]string{zeros(20000)}, 52), zeros(8100-left)) // 52 * 20009 + 8108 - left bytes
	for _, s := range l {
		ok(t, j.Append(s))
	}
	if d.Size(0) != journal.Max-left {
		t.Fatalf("%d bytes", d.Size(0))
	}
	return j, l
}

// P3.2: a list gets at most Max bytes.
func TestAppendFull(t *testing.T) {
	if journal.Max != 1048576 {
		t.Fatalf("Max is %d", journal.Max)
	}
	for _, left := range []int{0, 1, 4, 5, 6, 7, 8, 700} {
		d := disk.New()
		j, l := filled(t, d, left)
		d.Arm(1, nil)
		for _, s := range []string{"", "\x00", "a", "\x01\x00", "abc", zeros(691), zeros(692), zeros(20000)} {
			if len(form(s)) > left {
				fails(t, api.ErrFull, j.Append(s))
			}
		}
		fails(t, api.ErrRange, j.Append(zeros(20001)))
		lists(t, j, l)
		if d.Down() || d.Size(0) != journal.Max-left {
			t.Fatal("a call of the disk was made")
		}
		d.Arm(0, nil)
		for _, s := range []string{"", "\x00", "a", zeros(691), zeros(692)} { // what fits still fits, to the last byte
			if n := journal.Max - d.Size(0); len(form(s)) <= n {
				ok(t, j.Append(s))
				l = append(l, s)
			} else {
				fails(t, api.ErrFull, j.Append(s))
			}
			lists(t, j, l)
		}
		ok(t, j.Sync())
		lists(t, open(t, d, 0), l)
	}
}

// P3.2: the form of the record decides, not its bytes alone.
func TestAppendFullForm(t *testing.T) {
	d := disk.New()
	j, l := filled(t, d, 100)
	fails(t, api.ErrFull, j.Append(strings.Repeat("x", 93))) // 3 + 93 + 1 + 6 + 1 = 104 bytes
	ok(t, j.Append(zeros(94)))                               // 3 + 94 + 1 + 1 + 1 = 100 bytes
	lists(t, j, append(l, zeros(94)))
	if d.Size(0) != journal.Max {
		t.Errorf("%d bytes", d.Size(0))
	}
}

// P3.2 and P3.3: after an error of the disk, which is returned, both calls return ErrState, and call the disk no more.
func TestErrState(t *testing.T) {
	long := strings.Repeat("x", 20001)
	for i, c := range []struct {
		fail func(d *disk.Disk, j *journal.Journal) api.Errno
		want api.Errno
	}{
		{func(d *disk.Disk, j *journal.Journal) api.Errno { d.Lose(1); return j.Sync() }, api.ErrLost},
		{func(d *disk.Disk, j *journal.Journal) api.Errno { d.Arm(1, nil); return j.Sync() }, api.ErrDown},
		{func(d *disk.Disk, j *journal.Journal) api.Errno { d.Arm(1, nil); return j.Append("c") }, api.ErrDown},
		{func(d *disk.Disk, j *journal.Journal) api.Errno { d.Arm(1, []int{1}); return j.Append("c") }, api.ErrDown},
		{func(d *disk.Disk, j *journal.Journal) api.Errno { d.Crash(nil); return j.Append("c") }, api.ErrDown},
		{func(d *disk.Disk, j *journal.Journal) api.Errno { d.Crash([]int{1}); return j.Sync() }, api.ErrDown},
		{func(d *disk.Disk, j *journal.Journal) api.Errno { d.Crash(nil); return j.Append("") }, api.ErrDown},
	} {
		d := disk.New()
		j := open(t, d, 0)
		ok(t, j.Append("a"), j.Sync(), j.Append("b"))
		fails(t, c.want, c.fail(d, j))
		lists(t, j, []string{"a", "b"})
		d.Arm(1, nil)
		d.Lose(1)
		was := state(d)
		for range 3 {
			fails(t, api.ErrState, j.Append("c"), j.Append(""), j.Append(long), j.Sync())
		}
		lists(t, j, []string{"a", "b"})
		if state(d) != was {
			t.Errorf("case %d: a call of the disk was made", i)
		}
	}
}

// P3.2: ErrState comes before ErrFull; errors that are not those of the disk are none of its reasons.
func TestErrStateFull(t *testing.T) {
	d := disk.New()
	j, l := filled(t, d, 0)
	fails(t, api.ErrFull, j.Append(""))
	fails(t, api.ErrRange, j.Append(zeros(20001)))
	ok(t, j.Sync())
	fails(t, api.ErrFull, j.Append(""))
	d.Lose(1)
	fails(t, api.ErrLost, j.Sync())
	fails(t, api.ErrState, j.Append(""), j.Append(zeros(20001)), j.Sync())
	lists(t, j, l)
}

// P3.2: a machine that is down is noticed only by the call of the disk.
func TestDownOrder(t *testing.T) {
	d := disk.New()
	j, l := filled(t, d, 0)
	d.Crash(nil)
	fails(t, api.ErrRange, j.Append(zeros(20001)))
	fails(t, api.ErrFull, j.Append(""))
	fails(t, api.ErrDown, j.Sync())
	fails(t, api.ErrState, j.Append(zeros(20001)), j.Append(""), j.Sync())
	lists(t, j, l)
}

// P3.3: Sync makes what was appended durable, and its own file only.
func TestSync(t *testing.T) {
	d := disk.New()
	j, other := open(t, d, 7), open(t, d, 8)
	ok(t, j.Sync(), j.Append("a"), other.Append("x"), j.Sync(), j.Sync())
	d.Arm(1, nil)
	fails(t, api.ErrDown, j.Sync())
	d.Start()
	has(t, d, 7, form("a"))
	has(t, d, 8, "")
}

// P3.3: a journal that was opened again after an error goes on.
func TestOpenAfterError(t *testing.T) {
	d := disk.New()
	j := open(t, d, 0)
	ok(t, j.Append("a"))
	d.Lose(2)
	fails(t, api.ErrLost, j.Sync())
	refuses(t, d, 0, api.ErrLost)
	j = open(t, d, 0)
	lists(t, j, []string{"a"})
	ok(t, j.Append("b"), j.Sync())
	d.Arm(1, nil)
	fails(t, api.ErrDown, j.Append("c"))
	refuses(t, d, 0, api.ErrDown)
	d.Start()
	j = open(t, d, 0)
	ok(t, j.Append("d"), j.Sync())
	lists(t, j, []string{"a", "b", "d"})
}

// P3.4: there is nothing in a new journal; Get of what is not there is empty.
func TestEmpty(t *testing.T) {
	j := open(t, disk.New(), 3)
	lists(t, j, nil)
	ok(t, j.Append(""))
	lists(t, j, []string{""})
}

// P3.5: lists that All returned are those of that moment, and belong to the caller.
func TestAllIsCopy(t *testing.T) {
	d := holding(t, 0, form("a")+form("b"))
	j := open(t, d, 0)
	first, second := j.All(), j.All()
	first[0] = "changed"
	_ = append(first[:1], "changed")
	_ = append(j.All(), "changed")
	if second[0] != "a" || second[1] != "b" {
		t.Errorf("another list is %q", second)
	}
	lists(t, j, []string{"a", "b"})
	for range 20 { // with any capacity that the list of the journal gets
		was, n := j.All(), j.Len()
		mine := append(j.All(), "mine")
		ok(t, j.Append("c"))
		if len(was) != n || mine[n] != "mine" || j.Get(n) != "c" {
			t.Fatalf("lists of %d records share memory", n)
		}
		for i := range was {
			was[i] = "changed"
		}
	}
	lists(t, j, append([]string{"a", "b"}, slices.Repeat([]string{"c"}, 20)...))
	ok(t, j.Sync())
	lists(t, open(t, d, 0), j.All())
}

// P3.5: journals of other files and disks do not matter.
func TestJournalsApart(t *testing.T) {
	d := disk.New()
	var l [16]*journal.Journal
	for file := range l {
		l[file] = open(t, d, file)
	}
	for i := range 64 {
		ok(t, l[i*5%16].Append(fmt.Sprint(i)))
	}
	c := d.Copy()
	for file := range l {
		var want []string
		for i := range 64 {
			if i*5%16 == file {
				want = append(want, fmt.Sprint(i))
			}
		}
		lists(t, l[file], want)
		has(t, d, file, forms(want))
		lists(t, open(t, c, file), want)
		ok(t, l[file].Append("later"))
		has(t, c, file, forms(want))
	}
}
