package journal_test

import (
	"fmt"
	"math/rand"
	"slices"
	"strings"
	"testing"

	"lading/api"
	"lading/disk"
	"lading/journal"
)

// life is a journal that is used over crashes, and what P3.6 says about the records that can be found.
type life struct {
	d    *disk.Disk
	j    *journal.Journal // nil, if it must be opened first
	list []string         // the records that were there, and the one whose Append returned an error of the disk
	safe int              // how many there were when Open or Sync last returned OK
	log  []string
}

func newLife(d *disk.Disk) *life { return &life{d: d} }

// open opens the journal, and returns what is wrong.
func (l *life) open() string {
	j, e := journal.Open(l.d, 0)
	l.log = append(l.log, fmt.Sprintf("Open: %d", e))
	if l.j = j; e != api.OK {
		return ""
	}
	all := j.All()
	if len(all) < l.safe || len(all) > len(l.list) || !slices.Equal(all, l.list[:len(all)]) {
		return fmt.Sprintf("%.200q was found of %.200q, with %d safe", all, l.list, l.safe)
	}
	l.list, l.safe = all, len(all)
	return ""
}

// append appends a record.
func (l *life) append(record string) {
	e := l.j.Append(record)
	l.log = append(l.log, fmt.Sprintf("Append %.40q: %d", record, e))
	if e == api.OK || e == api.ErrDown || e == api.ErrLost {
		l.list = append(l.list, record)
	}
}

func (l *life) sync() {
	e := l.j.Sync()
	l.log = append(l.log, fmt.Sprintf("Sync: %d", e))
	if e == api.OK {
		l.safe = len(l.list)
	}
}

// restart takes the machine down, if it is not, and brings it up.
func (l *life) restart(keep []int) {
	l.d.Crash(keep)
	l.d.Start()
	l.j = nil
	l.log = append(l.log, fmt.Sprintf("Crash %d", keep))
}

// scripts are what is appended: s is a sync, - a sync that is lost, o is Open, and anything else a record.
func scripts() [][]string {
	long := func(n int, c string) string { return strings.Repeat(c, n) }
	return [][]string{
		{"a", "s", "b", "c"},
		{long(100, "\xff"), "s", long(200, "b"), long(57, "c")},
		{long(56, "x"), "s", long(56, "y"), "s", long(150, "z")},
		{"a", "-", "o", "b", long(120, "b"), "-", "o", "c"},
		{long(64, "1"), long(64, "2"), "s", long(64, ";"), long(64, ":")},
		{zeros(130), "s", zeros(3), zeros(200), "\x00\x01"},
		{"", "", "s", "", form(long(60, "f")), "", "o", form("") + form(long(70, "g"))},
		{zeros(100) + "a" + zeros(100), "s", "o", "a" + zeros(250)},
		{"a", long(30, "b"), "-", "s", "c"},
	}
}

// play performs a script from the disk on, until it cannot go on, and returns what is wrong.
func (l *life) play(script []string) string {
	if why := l.open(); why != "" {
		return why
	}
	for _, s := range script {
		switch {
		case s == "o":
			if why := l.open(); why != "" {
				return why
			}
		case l.j == nil:
			return ""
		case s == "-":
			l.d.Lose(1)
			l.sync()
			l.d.Lose(0)
		case s == "s":
			l.sync()
		default:
			l.append(s)
		}
	}
	return ""
}

// P3.6: whichever call the machine goes down at, and whichever sectors survive, when it runs and when it is opened again.
func TestEveryCrash(t *testing.T) {
	for i, script := range scripts() {
		for call := 1; call < 14; call++ {
			for mask := range 256 {
				keep := make([]int, 8)
				for k := range keep {
					keep[k] = mask >> k & 1
				}
				for again := range 3 { // the call of Open at which it goes down once more
					l := newLife(disk.New())
					l.d.Arm(call, keep)
					why := l.play(script)
					l.restart(keep)
					if again > 0 && why == "" {
						l.d.Arm(again, keep[again:])
						if why = l.open(); l.j != nil && why == "" {
							l.append("again")
						}
						l.restart(keep)
					}
					if why == "" {
						why = l.open()
					}
					if l.j == nil || why != "" {
						t.Fatalf("script %d\n%s\n%s", i, strings.Join(l.log, "\n"), why)
					}
				}
			}
		}
	}
}

// someSmall returns a record with at most 4000 bytes.
func someSmall(r *rand.Rand) string {
	s := someBytes(r, oneOf(r.Intn, 0, 1, 5, 50, 58, 59, 60, 64, 120, 128, 200, 700, 4000))
	switch r.Intn(5) {
	case 0:
		return zeros(len(s))
	case 1:
		return strings.Repeat("\xff", len(s))
	case 2:
		return form(s[:min(len(s), 3900)])
	case 3:
		return s[:len(s)/3] + zeros(len(s)/3) + s[len(s)/3*2:]
	}
	return s
}

// P3.6: journals that are used on and on, with crashes and lost syncs at any moment.
func TestLives(t *testing.T) {
	r := rand.New(rand.NewSource(36))
	for range 400 {
		l := newLife(disk.New())
		for range 60 {
			why := ""
			switch n := r.Intn(20); {
			case n == 0:
				l.d.Lose(r.Intn(3))
				l.log = append(l.log, "Lose")
			case n == 1:
				l.d.Arm(1+r.Intn(5), someKeep(r.Intn))
				l.log = append(l.log, "Arm")
			case n == 2 || l.d.Down():
				l.restart(someKeep(r.Intn))
			case n == 3 || l.j == nil:
				why = l.open()
			case n < 8:
				l.sync()
			default:
				l.append(someSmall(r))
			}
			if why != "" {
				t.Fatalf("%s\n%s", strings.Join(l.log, "\n"), why)
			}
		}
	}
}

// P3.6: Open succeeds after every crash, if no sync is lost, and the machine stays up.
func TestOpenSucceeds(t *testing.T) {
	r := rand.New(rand.NewSource(63))
	for range 3000 {
		d := disk.New()
		ok(t, d.Write(0, 0, someEnd(r.Intn)))
		if r.Intn(2) == 0 {
			ok(t, d.Sync(0))
		}
		ok(t, d.Write(0, r.Intn(200), someEnd(r.Intn)))
		d.Crash(someKeep(r.Intn))
		d.Start()
		open(t, d, 0)
	}
}

// P3.6: the sum of a record with at most 4000 bytes is another one when some that are not 0 become 0.
func TestSumNotices(t *testing.T) {
	r := rand.New(rand.NewSource(4))
	for i := range 3000 {
		n := 1 + r.Intn(4000)
		if i%3 == 0 {
			n = 4000
		}
		was := []byte(someBytes(r, n))
		if i%5 == 0 {
			was = []byte(strings.Repeat("\xff", n))
		}
		is := slices.Clone(was)
		at := r.Intn(n)
		clear(is[at : at+1+r.Intn(n-at)])
		if i%7 == 0 {
			clear(is)
		}
		if string(is) != string(was) && journal.Sum(string(is)) == journal.Sum(string(was)) {
			t.Fatalf("%q and %q have the same sum", was, is)
		}
	}
}
