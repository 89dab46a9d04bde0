package disk_test

import (
	"fmt"
	"math"
	"math/rand"
	"slices"
	"strings"
	"testing"

	"lading/api"
	"lading/disk"
)

// spot is a sector: its file, and its number in it.
type spot struct{ file, number int }

// model is a disk in the words of the document: files and durable parts are strings, and what is pending is a list.
type model struct {
	now, durable [16]string
	pending      []spot
	lost, calls  int
	keep         []int
	down         bool
}

func (m *model) copy() *model {
	c := *m
	c.pending = slices.Clone(m.pending)
	return &c
}

// put puts s into file at the offset.
func put(file string, at int, s string) string {
	if s == "" {
		return file
	}
	if len(file) < at {
		file += strings.Repeat("\x00", at-len(file))
	}
	return file[:at] + s + file[min(at+len(s), len(file)):]
}

// bytesOf returns the bytes of the sector with the number n.
func bytesOf(file string, n int) string {
	return file[min(64*n, len(file)):min(64*n+64, len(file))]
}

func (m *model) write(f, at int, s string) api.Errno {
	switch {
	case m.down:
		return api.ErrDown
	case f < 0 || f > 15 || at < 0:
		return m.count(api.ErrArg)
	case at > 1<<24 || at+len(s) > 1<<24:
		return m.count(api.ErrFull)
	}
	m.now[f] = put(m.now[f], at, s)
	for i := range len(s) {
		if x := (spot{f, (at + i) / 64}); !slices.Contains(m.pending, x) {
			m.pending = append(m.pending, x)
		}
	}
	return m.count(api.OK)
}

func (m *model) sync(f int) api.Errno {
	switch {
	case m.down || m.count(api.OK) == api.ErrDown:
		return api.ErrDown
	case f < 0 || f > 15:
		return api.ErrArg
	case m.lost > 0:
		m.lost--
		return api.ErrLost
	}
	m.settle(f, len(m.now[f]))
	return api.OK
}

func (m *model) truncate(f, size int) api.Errno {
	switch {
	case m.down || m.count(api.OK) == api.ErrDown:
		return api.ErrDown
	case f < 0 || f > 15 || size < 0 || size > len(m.now[f]):
		return api.ErrArg
	}
	m.settle(f, size)
	return api.OK
}

// settle makes the first bytes of a file the file and its durable part.
func (m *model) settle(f, size int) {
	m.now[f] = m.now[f][:size]
	m.durable[f] = m.now[f]
	m.pending = slices.DeleteFunc(m.pending, func(x spot) bool { return x.file == f })
}

// count counts a call that would have returned e, and returns what it returns.
func (m *model) count(e api.Errno) api.Errno {
	if m.calls > 0 {
		if m.calls--; m.calls == 0 {
			m.crash(m.keep)
			return api.ErrDown
		}
	}
	return e
}

func (m *model) crash(keep []int) {
	if m.down {
		return
	}
	for i, x := range m.pending {
		if len(keep) > 0 && keep[i%len(keep)]%2 != 0 {
			m.durable[x.file] = put(m.durable[x.file], 64*x.number, bytesOf(m.now[x.file], x.number))
		}
	}
	m.now, m.pending, m.calls, m.down = m.durable, nil, 0, true
}

// pair is a disk and what it must be like.
type pair struct {
	d *disk.Disk
	m *model
}

// differs returns where the disk can be seen to differ from the model.
func (p pair) differs() string {
	if p.d.Down() != p.m.down {
		return fmt.Sprintf("Down is %v", p.d.Down())
	}
	for f, want := range p.m.now {
		if n := p.d.Size(f); n != len(want) {
			return fmt.Sprintf("file %d has %d bytes, not %d", f, n, len(want))
		}
		s, e := p.d.Read(f, 0, len(want)+1)
		if p.m.down {
			want = ""
		}
		if s != want || (e == api.ErrDown) != p.m.down || !p.m.down && e != api.OK {
			return fmt.Sprintf("file %d is %q (%d), not %q", f, s, e, want)
		}
	}
	return ""
}

// oneOf returns an element of l.
func oneOf(pick func(n int) int, l ...int) int { return l[pick(len(l))] }

// someKeep returns an argument of Crash or Arm.
func someKeep(pick func(n int) int) []int {
	l := make([]int, pick(6))
	for i := range l {
		l[i] = oneOf(pick, 0, 1, 1, 2, 3, -1, -2, -7, math.MaxInt, math.MinInt)
	}
	return l
}

// someBytes returns what may be written.
func someBytes(pick func(n int) int) string {
	n := oneOf(pick, 0, 1, 2, 3, 20, 63, 64, 65, 128, 130, 200)
	return strings.Repeat(string(rune('a'+pick(26))), n)
}

// perform performs some call on both, and returns its name and what differs.
func (p *pair) perform(pick func(n int) int) (string, string) {
	f := oneOf(pick, 0, 0, 0, 3, 3, 15, 16, -1)
	at := oneOf(pick, 0, 0, 1, 5, 60, 63, 64, 65, 100, 127, 128, 192, 250, 640, p.d.Size(f), p.d.Size(f)+1, p.d.Size(f)-1, -1, 1<<24, 1<<24+1, math.MaxInt, math.MinInt)
	call, got, want := "", api.Errno(api.OK), api.Errno(api.OK)
	switch pick(16) {
	default:
		s := someBytes(pick)
		if at == 1<<24 && f != 16 && f != -1 && s != "" { // so the call fails
			s = s[:1]
		}
		call, got, want = fmt.Sprintf("Write(%d, %d, %q)", f, at, s), p.d.Write(f, at, s), p.m.write(f, at, s)
	case 0, 1, 2:
		call, got, want = fmt.Sprintf("Sync(%d)", f), p.d.Sync(f), p.m.sync(f)
	case 3, 4:
		call, got, want = fmt.Sprintf("Truncate(%d, %d)", f, at), p.d.Truncate(f, at), p.m.truncate(f, at)
	case 5, 6:
		keep := someKeep(pick)
		call = fmt.Sprintf("Crash(%d)", keep)
		p.d.Crash(keep)
		p.m.crash(keep)
	case 7, 8:
		call, p.m.down = "Start()", false
		p.d.Start()
	case 9:
		n := oneOf(pick, 0, 1, 1, 2, -1, math.MinInt)
		call, p.m.lost = fmt.Sprintf("Lose(%d)", n), max(n, 0)
		p.d.Lose(n)
	case 10:
		n, keep := oneOf(pick, 0, 1, 1, 2, 3, 4, -1, math.MinInt, math.MaxInt), someKeep(pick)
		call, p.m.calls, p.m.keep = fmt.Sprintf("Arm(%d, %d)", n, keep), max(n, 0), slices.Clone(keep)
		p.d.Arm(n, keep)
		for i := range keep { // what the caller does to its slice later must not matter
			keep[i]++
		}
	}
	if got != want {
		return call, fmt.Sprintf("it returned %d, not %d", got, want)
	}
	return call, p.differs()
}

// checkCalls performs calls on a disk and on copies of it, as pick chooses, and compares all of them with the model.
func checkCalls(t *testing.T, steps int, pick func(n int) int) {
	t.Helper()
	pairs := []pair{{disk.New(), &model{}}}
	var log []string
	for range steps {
		i := pick(len(pairs))
		if pick(12) == 0 {
			log = append(log, fmt.Sprintf("%d: Copy()", i))
			c := pair{pairs[i].d.Copy(), pairs[i].m.copy()}
			if len(pairs) < 4 {
				pairs = append(pairs, c)
			} else {
				pairs[pick(len(pairs))] = c
			}
		} else {
			call, diff := pairs[i].perform(pick)
			log = append(log, fmt.Sprintf("%d: %s", i, call))
			if diff != "" {
				t.Fatalf("%s\n%s", strings.Join(log, "\n"), diff)
			}
		}
		for k, p := range pairs {
			if diff := p.differs(); diff != "" {
				t.Fatalf("%s\ndisk %d: %s", strings.Join(log, "\n"), k, diff)
			}
		}
	}
	for k, p := range pairs { // what is pending shows itself only in a crash
		keep := someKeep(pick)
		p.d.Start()
		p.m.down = false
		p.d.Crash(keep)
		p.m.crash(keep)
		if diff := p.differs(); diff != "" {
			t.Fatalf("%s\ndisk %d after Crash(%d): %s", strings.Join(log, "\n"), k, keep, diff)
		}
	}
}

// P2.1 to P2.6: whatever is called, in whatever order, disks and their copies are what the document says.
func TestAnyCalls(t *testing.T) {
	r := rand.New(rand.NewSource(2))
	for range 4000 {
		checkCalls(t, 40, r.Intn)
	}
}

// P2.1 to P2.6, and P1: the same with calls that a fuzzer chooses.
func FuzzCalls(f *testing.F) {
	f.Add([]byte("a disk, on which writes are torn"))
	f.Fuzz(func(t *testing.T, l []byte) {
		pick := func(n int) int {
			if len(l) == 0 {
				return 0
			}
			x := int(l[0]) % n
			l = l[1:]
			return x
		}
		checkCalls(t, min(len(l)/2, 100), pick)
	})
}
