package journal_test

import (
	"fmt"
	"math"
	"math/rand"
	"slices"
	"strings"
	"testing"

	"lading/api"
	"lading/disk"
	"lading/journal"
)

// state describes all that can be seen of a disk: its files as they are and after crashes, lost syncs, and a crash that is scheduled.
func state(d *disk.Disk) string {
	var b strings.Builder
	fmt.Fprintf(&b, "down %v\n", d.Down())
	files := func(d *disk.Disk) {
		for f := range 16 {
			if s, e := d.Read(f, 0, limit); s != "" || e != api.OK {
				fmt.Fprintf(&b, "%d: %d %d ", f, d.Size(f), e)
				b.WriteString(s + "\n")
			}
		}
	}
	files(d)
	for _, keep := range [][]int{nil, {1}, {1, 0}, {0, 1}, {1, 1, 0}} {
		c := d.Copy()
		c.Start()
		c.Crash(keep)
		c.Start()
		fmt.Fprintf(&b, "after Crash(%d)\n", keep)
		files(c)
	}
	c := d.Copy()
	for range 12 {
		c.Start()
		fmt.Fprintf(&b, "%d ", c.Sync(0))
	}
	files(c)
	return b.String()
}

// model is a journal in the words of the document.
type model struct {
	d      *disk.Disk
	file   int
	list   []string
	failed bool
}

// openModel does what Open must do.
func openModel(d *disk.Disk, file int) (*model, api.Errno) {
	if file < 0 || file > 15 {
		return nil, api.ErrArg
	}
	if e := d.Sync(file); e != api.OK {
		return nil, e
	}
	s, e := d.Read(file, 0, d.Size(file))
	if e != api.OK {
		return nil, e
	}
	list, length := recordsOf(s)
	if d.Size(file) > length {
		if e := d.Truncate(file, length); e != api.OK {
			return nil, e
		}
	}
	return &model{d: d, file: file, list: list}, api.OK
}

func (m *model) append(record string) api.Errno {
	at := len(forms(m.list))
	switch {
	case m.failed:
		return api.ErrState
	case len(record) > 20000:
		return api.ErrRange
	case at+len(form(record)) > 1048576:
		return api.ErrFull
	}
	e := m.d.Write(m.file, at, form(record))
	if m.failed = e != api.OK; !m.failed {
		m.list = append(m.list, record)
	}
	return e
}

func (m *model) sync() api.Errno {
	if m.failed {
		return api.ErrState
	}
	e := m.d.Sync(m.file)
	m.failed = e != api.OK
	return e
}

// pair is a disk with a journal, and what they must be like. There is no journal before Open succeeds, and after a restart.
type pair struct {
	d, md *disk.Disk
	j     *journal.Journal
	m     *model
}

// oneOf returns an element of l.
func oneOf(pick func(n int) int, l ...int) int { return l[pick(len(l))] }

// someKeep returns an argument of Crash or Arm.
func someKeep(pick func(n int) int) []int {
	l := make([]int, pick(6))
	for i := range l {
		l[i] = pick(2)
	}
	return l
}

// someRecord returns a record.
func someRecord(pick func(n int) int) string {
	n := oneOf(pick, 0, 0, 1, 2, 9, 10, 57, 64, 99, 100, 130, 300)
	if pick(40) == 0 {
		n = oneOf(pick, 4000, 20000, 20001)
	}
	b := make([]byte, n)
	first, step := pick(256), pick(3)
	for i := range b {
		b[i] = byte(first + i*step)
	}
	if pick(8) == 0 {
		return form(string(b[:min(n, 19000)]))
	}
	return string(b)
}

// someEnd returns what may stand behind the records of a file.
func someEnd(pick func(n int) int) string {
	s := form(someRecord(pick)) + form(someRecord(pick))
	switch at := pick(len(s)); pick(5) {
	case 0:
		return s
	case 1:
		return s[:at]
	case 2:
		return s[at:]
	case 3:
		return s[:at] + zeros(min(len(s)-at, 64)) + s[min(len(s), at+64):]
	default:
		return s[:at] + string([]byte{s[at] + 1}) + s[at+1:]
	}
}

// open opens a file of both, and returns what differs.
func (p *pair) open(file int) string {
	j, e := journal.Open(p.d, file)
	m, want := openModel(p.md, file)
	if e != want || (j == nil) != (m == nil) {
		return fmt.Sprintf("it returned %v, %d, not %d", j, e, want)
	}
	p.j, p.m = j, m
	return ""
}

// perform performs some call on both, and returns its name and what differs.
func (p *pair) perform(pick func(n int) int) (string, string) {
	file := oneOf(pick, 0, 0, 0, 0, 15, 15, 16, -1, math.MaxInt, math.MinInt)
	both := func(call func(d *disk.Disk)) {
		call(p.d)
		call(p.md)
	}
	switch kind := pick(16); {
	case kind == 0:
		n := pick(3)
		both(func(d *disk.Disk) { d.Lose(n) })
		return fmt.Sprintf("Lose(%d)", n), ""
	case kind == 1:
		n, keep := pick(6), someKeep(pick)
		both(func(d *disk.Disk) { d.Arm(n, keep) })
		return fmt.Sprintf("Arm(%d, %d)", n, keep), ""
	case kind == 2:
		keep := someKeep(pick)
		both(func(d *disk.Disk) { d.Crash(keep) })
		return fmt.Sprintf("Crash(%d)", keep), ""
	case kind == 3 && pick(3) == 0:
		s := someEnd(pick)
		both(func(d *disk.Disk) { d.Write(0, d.Size(0), s) })
		return fmt.Sprintf("Open(0) with %q behind", s), p.open(0)
	case kind <= 4 || p.j == nil:
		if pick(3) > 0 {
			both((*disk.Disk).Start)
		}
		return fmt.Sprintf("Open(%d)", file), p.open(file)
	case kind <= 7:
		return "Sync()", unlike(p.j.Sync(), p.m.sync())
	}
	s := someRecord(pick)
	return fmt.Sprintf("Append(%q)", s), unlike(p.j.Append(s), p.m.append(s))
}

func unlike(e, want api.Errno) string {
	if e != want {
		return fmt.Sprintf("it returned %d, not %d", e, want)
	}
	return ""
}

// checkCalls performs calls, as pick chooses, and compares the journal and its disk with the model.
func checkCalls(t *testing.T, steps int, pick func(n int) int) {
	t.Helper()
	p := &pair{d: disk.New(), md: disk.New()}
	var log []string
	for range steps {
		call, why := p.perform(pick)
		log = append(log, call)
		if why == "" && p.j != nil {
			why = differs(p.j, p.m.list)
		}
		if is, want := state(p.d), state(p.md); why == "" && is != want {
			why = fmt.Sprintf("the disk is\n%q\nnot\n%q", is, want)
		}
		if why != "" {
			t.Fatalf("%s\n%s", strings.Join(log, "\n"), why)
		}
	}
}

// P3.1 to P3.5: whatever is called, and whatever the file has behind its records, the journal and its disk are what the document says.
func TestAnyCalls(t *testing.T) {
	r := rand.New(rand.NewSource(3))
	for range 1000 {
		checkCalls(t, 30, r.Intn)
	}
}

// P3.1 to P3.5, and P1: the same with calls that a fuzzer chooses.
func FuzzCalls(f *testing.F) {
	f.Add([]byte("a journal, whose disk may be torn"))
	f.Fuzz(func(t *testing.T, l []byte) {
		pick := func(n int) int {
			if len(l) == 0 {
				return 0
			}
			x := int(l[0]) % n
			l = l[1:]
			return x
		}
		checkCalls(t, min(len(l)/2, 60), pick)
	})
}

// checkFile requires that a file with these bytes has the records that the document says, and keeps no others.
func checkFile(t *testing.T, s string) {
	t.Helper()
	want, length := recordsOf(s)
	d := disk.New()
	ok(t, d.Write(9, 0, s))
	lists(t, open(t, d, 9), want)
	has(t, d, 9, s[:length])
	again := state(d)
	lists(t, open(t, d, 9), want)
	if state(d) != again {
		t.Fatalf("%q: opening it again changed the disk", s)
	}
}

// P3.1 and P3.7: files with any bytes, each of them changed, removed or added.
func TestAnyFiles(t *testing.T) {
	whole := form("ab") + form("") + form("12:,") + form("\x00\xff")
	for i := range whole {
		checkFile(t, whole[:i])
		checkFile(t, whole[i:])
		checkFile(t, whole[:i]+whole[i+1:])
		for c := range 256 {
			checkFile(t, whole[:i]+string([]byte{byte(c)})+whole[i+1:])
		}
		for _, c := range "0123456789:,;[]-+ \x00a" {
			checkFile(t, whole[:i]+string(c)+whole[i:])
		}
	}
}

// P3.1 and P3.7: all files of up to 6 bytes that matter.
func TestShortFiles(t *testing.T) {
	const letters = "01:,;\x00"
	l := []string{""}
	for range 6 {
		var next []string
		for _, s := range l {
			for i := range len(letters) {
				next = append(next, s+letters[i:i+1])
			}
		}
		for _, s := range next {
			want, length := recordsOf(s)
			d := disk.New()
			ok(t, d.Write(0, 0, s))
			lists(t, open(t, d, 0), want)
			has(t, d, 0, s[:length])
		}
		l = next
	}
}

// P3.1 and P3.7: files that a fuzzer chooses.
func FuzzFile(f *testing.F) {
	f.Add(form("ab") + form(""))
	f.Add("1:a,97;1:b,97;")
	f.Add("01:a,97;20000:")
	f.Fuzz(func(t *testing.T, s string) { checkFile(t, s) })
}

// P3.7: what continues a string only adds to its records, behind where it reaches.
func TestContinued(t *testing.T) {
	r := rand.New(rand.NewSource(7))
	for range 300 {
		var l []string
		for range r.Intn(6) {
			l = append(l, someRecord(r.Intn))
		}
		whole := forms(l)
		if len(whole) > 3000 {
			continue
		}
		for at := range len(whole) + 1 {
			d := holding(t, 0, whole[:at])
			got := open(t, d, 0).All()
			reach := 0
			for len(forms(l[:reach])) < at && len(forms(l[:reach+1])) <= at {
				reach++
			}
			if !slices.Equal(got, l[:reach]) {
				t.Fatalf("the first %d bytes of %q: %q", at, whole, got)
			}
		}
		end := someEnd(r.Intn)
		if got := open(t, holding(t, 0, whole+end), 0).All(); len(got) < len(l) || !slices.Equal(got[:len(l)], l) {
			t.Fatalf("%q with %q behind: %q", whole, end, got)
		}
	}
}
