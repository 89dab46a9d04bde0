package disk_test

import (
	"fmt"
	"math"
	"slices"
	"strings"
	"testing"

	"lading/api"
	"lading/disk"
)

const limit = 1 << 24 // the most bytes that a file can have

// noFiles are numbers that are no file.
func noFiles() []int {
	return []int{-1, -2, -15, -16, 16, 17, 31, 32, 256, 1 << 32, 1<<32 + 3, math.MaxInt, math.MinInt, math.MinInt + 3}
}

// text returns n bytes, none of them 0, that differ from place to place.
func text(n int) string {
	b := make([]byte, n)
	for i := range b {
		b[i] = byte('!' + i%90)
	}
	return string(b)
}

// zeros returns n bytes 0.
func zeros(n int) string { return strings.Repeat("\x00", n) }

// ok requires that each of the calls returned OK.
func ok(t *testing.T, l ...api.Errno) {
	t.Helper()
	for i, e := range l {
		if e != api.OK {
			t.Fatalf("call %d returned %d", i, e)
		}
	}
}

// fails requires that each of the calls returned the error.
func fails(t *testing.T, want api.Errno, l ...api.Errno) {
	t.Helper()
	for i, e := range l {
		if e != want {
			t.Errorf("call %d returned %d, not %d", i, e, want)
		}
	}
}

// has requires that a file of a machine that is up has these bytes.
func has(t *testing.T, d *disk.Disk, f int, want string) {
	t.Helper()
	if s, e := d.Read(f, 0, limit); e != api.OK || s != want || d.Size(f) != len(want) {
		t.Errorf("file %d is %.300q (%d), with %d bytes, not %.300q", f, s, e, d.Size(f), want)
	}
}

// after requires that a file has these bytes after a crash of a copy.
func after(t *testing.T, d *disk.Disk, keep []int, f int, want string) {
	t.Helper()
	c := d.Copy()
	c.Crash(keep)
	c.Start()
	has(t, c, f, want)
}

// pending returns the pending sectors in their order: those that survive alone, one after the other, when what build leaves crashes.
func pending(build func(d *disk.Disk)) []spot {
	crashed := func(keep []int) *disk.Disk {
		d := disk.New()
		build(d)
		d.Crash(keep)
		d.Start()
		return d
	}
	base := crashed(nil)
	var l []spot
	for i := range 40 {
		keep := make([]int, 40)
		keep[i] = 1
		d := crashed(keep)
		for f := range 16 {
			was, _ := base.Read(f, 0, limit)
			is, _ := d.Read(f, 0, limit)
			was += zeros(max(0, len(is)-len(was)))
			for n := 0; 64*n < len(is); n++ {
				if bytesOf(is, n) != bytesOf(was, n) {
					l = append(l, spot{f, n})
				}
			}
		}
	}
	return l
}

// P2.1: a new disk is up; its files and durable parts are empty; nothing is pending, lost or scheduled.
func TestNew(t *testing.T) {
	d := disk.New()
	if d.Down() {
		t.Error("it is down")
	}
	for f := range 16 {
		has(t, d, f, "")
		ok(t, d.Sync(f), d.Truncate(f, 0))
	}
	d.Crash([]int{1})
	d.Start()
	for f := range 16 {
		has(t, d, f, "")
	}
	d = disk.New()
	for f := range 16 {
		ok(t, d.Write(f, 0, "ab"))
	}
	e := disk.New()
	has(t, e, 0, "")
	d.Crash(nil)
	d.Start()
	for f := range 16 {
		has(t, d, f, "")
	}
	if e.Crash(nil); d.Down() || !e.Down() {
		t.Error("a new disk is not independent of the one before it")
	}
}

// P2.1: the size of a file, up or down, and 0 for other numbers.
func TestSize(t *testing.T) {
	d := disk.New()
	for f := range 16 {
		ok(t, d.Write(f, 0, text(f+1)), d.Sync(f), d.Write(f, 0, text(200+f)))
	}
	check := func(extra int) {
		t.Helper()
		for f := range 16 {
			if n := d.Size(f); n != extra+f {
				t.Errorf("file %d has %d bytes, not %d", f, n, extra+f)
			}
		}
		for _, f := range noFiles() {
			if n := d.Size(f); n != 0 {
				t.Errorf("the file %d, which is none, has %d bytes", f, n)
			}
		}
	}
	check(200)
	d.Crash(nil)
	check(1)
	d.Start()
	check(1)
}

// P2.1 and P2.3: Down follows Crash and Start, however often they are called.
func TestDown(t *testing.T) {
	d := disk.New()
	for range 3 {
		d.Start()
		d.Start()
		if d.Down() {
			t.Error("down after Start")
		}
		d.Crash(nil)
		d.Crash([]int{1})
		if !d.Down() {
			t.Error("up after Crash")
		}
	}
}

// busy returns a disk with something of everything: durable, pending, lost and scheduled.
func busy() *disk.Disk {
	d := disk.New()
	d.Write(0, 0, text(100))
	d.Sync(0)
	d.Write(1, 10, "one")
	d.Write(0, 64, "two")
	d.Lose(2)
	d.Arm(4, []int{0, 1})
	return d
}

// isBusy requires that a disk is as busy leaves it, and changes it.
func isBusy(t *testing.T, d *disk.Disk, who string) {
	t.Helper()
	now := text(64) + "two" + text(100)[67:]
	if a, _ := d.Read(0, 0, 999); d.Down() || a != now {
		t.Errorf("%s: file 0 is %q", who, a)
	}
	if b, _ := d.Read(1, 0, 999); b != zeros(10)+"one" {
		t.Errorf("%s: file 1 is %q", who, b)
	}
	// Two lost syncs and one that is not; then the crash, in which only the second pending sector, now that of file 2, survives.
	if a, b, c := d.Sync(0), d.Sync(2), d.Sync(0); a != api.ErrLost || b != api.ErrLost || c != api.OK {
		t.Errorf("%s: the syncs returned %d, %d, %d", who, a, b, c)
	}
	if e := d.Write(2, 0, "last"); e != api.ErrDown || d.Size(0) != len(now) || d.Size(1) != 0 || d.Size(2) != 4 {
		t.Errorf("%s: after the crash (%d): sizes %d, %d, %d", who, e, d.Size(0), d.Size(1), d.Size(2))
	}
}

// P2.1: what is done with a disk does not change its copy, and the other way round; a copy has what Lose and Arm have set.
func TestCopy(t *testing.T) {
	for i, change := range []func(d *disk.Disk){
		func(d *disk.Disk) {},
		func(d *disk.Disk) { d.Write(0, 0, "changed") },
		func(d *disk.Disk) { d.Write(0, 64, "changed") },
		func(d *disk.Disk) { d.Write(9, 500, "changed"); d.Write(2, 0, "changed") },
		func(d *disk.Disk) { d.Lose(0) },
		func(d *disk.Disk) { d.Lose(5) },
		func(d *disk.Disk) { d.Arm(0, nil) },
		func(d *disk.Disk) { d.Arm(1, []int{1}); d.Write(0, 0, "x") },
		func(d *disk.Disk) { d.Arm(3, []int{1, 1, 1}) },
		func(d *disk.Disk) { d.Sync(0); d.Sync(0); d.Sync(0); d.Sync(0) },
		func(d *disk.Disk) { d.Lose(0); d.Sync(1); d.Sync(0) },
		func(d *disk.Disk) { d.Truncate(0, 3); d.Truncate(1, 0) },
		func(d *disk.Disk) { d.Crash(nil) },
		func(d *disk.Disk) { d.Crash([]int{1}); d.Start(); d.Write(0, 0, text(300)); d.Sync(0) },
		func(d *disk.Disk) { isBusy(t, d, "before the copy is looked at") },
	} {
		d := busy()
		c := d.Copy()
		change(d)
		isBusy(t, c, fmt.Sprintf("change %d of the disk, copy", i))
		d = busy()
		c = d.Copy()
		change(c)
		isBusy(t, d, fmt.Sprintf("change %d of the copy, disk", i))
	}
	d := busy()
	isBusy(t, d.Copy().Copy(), "copy of a copy")
	d.Crash([]int{1, 0})
	c := d.Copy()
	if c.Start(); c.Down() || !d.Down() {
		t.Error("Start of a copy of a disk that is down")
	}
	if d.Copy().Down() != true || d.Copy().Size(0) != 100 {
		t.Error("a copy of a disk that is down is not down")
	}
	has(t, c, 0, text(100))
	has(t, c, 1, zeros(10)+"one")
}

// P2.1: two copies of one disk do not grow into each other's memory.
func TestCopies(t *testing.T) {
	for n := range 10 {
		d := disk.New()
		for i := range n {
			ok(t, d.Write(i, 0, text(i+1)))
		}
		a, b := d.Copy(), d.Copy()
		ok(t, a.Write(12, 0, "a"), b.Write(13, 0, "b"), d.Write(14, 0, "d"))
		for i, x := range []*disk.Disk{a, b, d} {
			x.Crash([]int{1})
			x.Start()
			for f := 12; f < 15; f++ {
				want := ""
				if f == 12+i {
					want = "abd"[i : i+1]
				}
				has(t, x, f, want)
			}
		}
	}
}

// P2.2: calls with a number that is no file return ErrArg.
func TestNoFile(t *testing.T) {
	d := disk.New()
	ok(t, d.Write(0, 0, "a"), d.Write(15, 0, "b"))
	d.Lose(1)
	for _, f := range noFiles() {
		for _, at := range []int{-1, 0, limit, math.MaxInt} {
			if s, e := d.Read(f, at, 1); s != "" || e != api.ErrArg {
				t.Errorf("Read of %d: %q, %d", f, s, e)
			}
			fails(t, api.ErrArg, d.Write(f, at, ""), d.Write(f, at, "x"), d.Sync(f), d.Truncate(f, 0), d.Truncate(f, at))
		}
	}
	has(t, d, 0, "a")
	has(t, d, 15, "b")
	fails(t, api.ErrLost, d.Sync(0)) // so none of the calls above used it up
	ok(t, d.Sync(0))
}

// P2.2: a machine that is down says so first, whatever else is wrong, and with nothing wrong.
func TestErrDown(t *testing.T) {
	d := disk.New()
	ok(t, d.Write(0, 0, "abc"), d.Sync(0), d.Write(0, 3, "def"))
	d.Lose(1)
	d.Crash(nil)
	for _, f := range append(noFiles(), 0, 15) {
		for _, n := range []int{math.MinInt, -1, 0, 1, 3, 4, limit, limit + 1, math.MaxInt} {
			for _, size := range []int{-1, 0, 1} {
				if s, e := d.Read(f, n, size); s != "" || e != api.ErrDown {
					t.Errorf("Read of %d at %d: %q, %d", f, n, s, e)
				}
			}
			fails(t, api.ErrDown, d.Write(f, n, ""), d.Write(f, n, "x"), d.Sync(f), d.Truncate(f, n))
		}
	}
	d.Start()
	has(t, d, 0, "abc")
	has(t, d, 15, "")
	fails(t, api.ErrLost, d.Sync(0))
	ok(t, d.Sync(0))
}

// P2.2: ErrArg stands before ErrFull and ErrLost.
func TestErrArgFirst(t *testing.T) {
	d := disk.New()
	d.Lose(1)
	long := text(limit + 2)
	fails(t, api.ErrArg, d.Write(16, limit, "x"), d.Write(-1, math.MaxInt, "x"), d.Write(0, -1, long), d.Write(16, 0, long), d.Sync(-1), d.Sync(16))
	fails(t, api.ErrLost, d.Sync(0))
}

// P2.2: those of the bytes that were asked for, and exist.
func TestRead(t *testing.T) {
	file := text(150)
	d := disk.New()
	ok(t, d.Write(4, 0, file))
	for _, c := range []struct {
		at, size int
		want     string
	}{
		{0, 0, ""}, {0, 1, file[:1]}, {0, 149, file[:149]}, {0, 150, file}, {0, 151, file}, {0, math.MaxInt, file},
		{1, 1, file[1:2]}, {62, 5, file[62:67]}, {63, 1, file[63:64]}, {63, 2, file[63:65]}, {64, 1, file[64:65]}, {64, 64, file[64:128]}, {60, 80, file[60:140]},
		{128, 22, file[128:]}, {140, 100, file[140:]}, {149, 1, file[149:]}, {149, 2, file[149:]}, {149, 0, ""}, {149, math.MaxInt, file[149:]}, {1, math.MaxInt, file[1:]},
		{150, 0, ""}, {150, 1, ""}, {150, math.MaxInt, ""}, {151, 0, ""}, {151, 1, ""}, {192, 1, ""}, {1 << 40, 5, ""}, {limit, 1, ""}, {limit + 1, 1, ""},
		{math.MaxInt, 0, ""}, {math.MaxInt, 1, ""}, {math.MaxInt, math.MaxInt, ""}, {math.MaxInt - 1, 1, ""},
	} {
		if s, e := d.Read(4, c.at, c.size); e != api.OK || s != c.want {
			t.Errorf("Read(4, %d, %d) = %q, %d, not %q", c.at, c.size, s, e, c.want)
		}
		if s, e := d.Read(5, c.at, c.size); e != api.OK || s != "" {
			t.Errorf("Read(5, %d, %d) of an empty file = %q, %d", c.at, c.size, s, e)
		}
	}
	for _, c := range [][2]int{{-1, 0}, {-1, 1}, {-1, 150}, {-150, 151}, {-1, math.MaxInt}, {math.MinInt, 1}, {math.MinInt, math.MaxInt}, {0, -1}, {150, -1}, {151, -1}, {math.MaxInt, -1}, {10, -5}, {0, math.MinInt}, {-1, -1}, {math.MinInt, math.MinInt}} {
		if s, e := d.Read(4, c[0], c[1]); s != "" || e != api.ErrArg {
			t.Errorf("Read(4, %d, %d) = %q, %d", c[0], c[1], s, e)
		}
	}
	has(t, d, 4, file)
}

// P2.2: bytes replace those from the offset on, and bytes 0 fill what is missing before them.
func TestWrite(t *testing.T) {
	for _, was := range []int{0, 1, 63, 64, 65, 100, 128, 130} {
		for _, at := range []int{0, 1, 10, 62, 63, 64, 65, 99, 100, 101, 128, 129, 200, 1000} {
			for _, n := range []int{0, 1, 2, 63, 64, 65, 90, 200} {
				file, s := text(was), strings.Repeat("#", n)
				d := disk.New()
				ok(t, d.Write(2, 0, file), d.Write(3, 0, "other"), d.Write(2, at, s))
				want := file
				if n > 0 {
					want += zeros(max(0, at-was))
					want = want[:at] + s + want[min(at+n, len(want)):]
				}
				has(t, d, 2, want)
				has(t, d, 3, "other")
				if t.Failed() {
					t.Fatalf("%d bytes at %d into %d bytes", n, at, was)
				}
			}
		}
	}
}

// P2.2: bytes 0 and others are written as they are.
func TestWriteAnyBytes(t *testing.T) {
	all := make([]byte, 256)
	for i := range all {
		all[i] = byte(i)
	}
	d := disk.New()
	ok(t, d.Write(0, 0, string(all)), d.Write(0, 256, string(all)), d.Write(0, 3, zeros(100)))
	want := string(all[:3]) + zeros(100) + string(all[103:]) + string(all)
	has(t, d, 0, want)
	after(t, d, []int{1}, 0, want)
}

// P2.2: no bytes change nothing, wherever they are written, and fail where others would only by the offset.
func TestWriteNothing(t *testing.T) {
	d := disk.New()
	ok(t, d.Write(0, 0, "abc"), d.Sync(0))
	for _, at := range []int{0, 1, 3, 4, 64, 1000, limit - 1, limit} {
		ok(t, d.Write(0, at, ""), d.Write(1, at, ""))
	}
	fails(t, api.ErrFull, d.Write(0, limit+1, ""), d.Write(0, math.MaxInt, ""))
	fails(t, api.ErrArg, d.Write(0, -1, ""), d.Write(0, math.MinInt, ""))
	has(t, d, 0, "abc")
	has(t, d, 1, "")
	got := pending(func(d *disk.Disk) {
		d.Write(0, 0, "")
		d.Write(0, 200, "")
		d.Write(0, 64, "x")
	})
	if !slices.Equal(got, []spot{{0, 1}}) {
		t.Errorf("pending: %v", got)
	}
}

// P2.2: a file has at most 2^24 bytes; where it would end is calculated exactly.
func TestWriteFull(t *testing.T) {
	d := disk.New()
	ok(t, d.Write(0, 0, "start"), d.Sync(0))
	fails(t, api.ErrFull, d.Write(0, limit, "a"), d.Write(0, limit-1, "ab"), d.Write(0, limit-100, text(101)), d.Write(0, limit+1, "a"), d.Write(0, limit+1, ""),
		d.Write(0, 1<<32, "a"), d.Write(0, math.MaxInt, ""), d.Write(0, math.MaxInt, "a"), d.Write(0, math.MaxInt-1, "ab"), d.Write(0, math.MaxInt-2, "a"), d.Write(0, math.MaxInt, text(1000)))
	fails(t, api.ErrArg, d.Write(0, math.MinInt, "a"), d.Write(0, math.MinInt, ""), d.Write(0, -1, "a"), d.Write(0, -5, "abcdefgh"))
	has(t, d, 0, "start")
	after(t, d, []int{1}, 0, "start")
	ok(t, d.Write(0, limit-2, "yz"))
	if s, e := d.Read(0, limit-4, 10); d.Size(0) != limit || s != "\x00\x00yz" || e != api.OK {
		t.Errorf("Size %d, Read %q, %d", d.Size(0), s, e)
	}
	ok(t, d.Write(0, limit, ""), d.Write(0, limit-1, "Z"))
	d.Crash([]int{1})
	if d.Size(0) != limit {
		t.Errorf("Size %d after the crash", d.Size(0))
	}
	d.Start()
	if s, _ := d.Read(0, limit-4, 10); s != "\x00\x00yZ" {
		t.Errorf("%q after the crash", s)
	}
	ok(t, d.Truncate(0, 3))
	has(t, d, 0, "sta")
}

// P2.2: as many bytes as a file can have are written at once, and no more.
func TestWriteAll(t *testing.T) {
	all := text(limit + 1)
	d := disk.New()
	fails(t, api.ErrFull, d.Write(9, 0, all), d.Write(9, 1, all[:limit]))
	has(t, d, 9, "")
	ok(t, d.Write(9, 0, all[:limit]))
	if s, _ := d.Read(9, 0, math.MaxInt); s != all[:limit] {
		t.Error("the file is another one")
	}
}

// P2.2: the sectors with bytes that were written become pending, in ascending order, each of them once.
func TestPending(t *testing.T) {
	for i, c := range []struct {
		build func(d *disk.Disk)
		want  []spot
	}{
		{func(d *disk.Disk) {}, nil},
		{func(d *disk.Disk) { d.Write(3, 0, "a") }, []spot{{3, 0}}},
		{func(d *disk.Disk) { d.Write(3, 63, "a") }, []spot{{3, 0}}},
		{func(d *disk.Disk) { d.Write(3, 64, "a") }, []spot{{3, 1}}},
		{func(d *disk.Disk) { d.Write(3, 63, "ab") }, []spot{{3, 0}, {3, 1}}},
		{func(d *disk.Disk) { d.Write(3, 0, text(64)) }, []spot{{3, 0}}},
		{func(d *disk.Disk) { d.Write(3, 0, text(65)) }, []spot{{3, 0}, {3, 1}}},
		{func(d *disk.Disk) { d.Write(3, 64, text(64)) }, []spot{{3, 1}}},
		{func(d *disk.Disk) { d.Write(3, 300, text(300)) }, []spot{{3, 4}, {3, 5}, {3, 6}, {3, 7}, {3, 8}, {3, 9}}},
		{func(d *disk.Disk) { d.Write(0, 200, "a"); d.Write(0, 0, text(250)) }, []spot{{0, 3}, {0, 0}, {0, 1}, {0, 2}}},
		{func(d *disk.Disk) { d.Write(0, 70, "a"); d.Write(0, 64, "b"); d.Write(0, 127, "c") }, []spot{{0, 1}}},
		{func(d *disk.Disk) {
			d.Write(15, 0, "a")
			d.Write(0, 0, "b")
			d.Write(15, 64, "c")
			d.Write(7, 0, "d")
			d.Write(0, 1, "e")
		}, []spot{{15, 0}, {0, 0}, {15, 1}, {7, 0}}},
		{func(d *disk.Disk) { d.Write(0, 0, "a"); d.Sync(0); d.Write(0, 640, "b") }, []spot{{0, 10}}},
		{func(d *disk.Disk) { d.Write(0, 0, text(10)); d.Sync(0); d.Write(0, 60, "b") }, []spot{{0, 0}}},
		{func(d *disk.Disk) { d.Write(0, 0, "a"); d.Write(1, 0, "b"); d.Write(0, 64, "c"); d.Sync(0) }, []spot{{1, 0}}},
		{func(d *disk.Disk) {
			d.Write(0, 0, "a")
			d.Write(1, 0, "b")
			d.Write(0, 64, "c")
			d.Sync(1)
			d.Write(1, 0, "d")
		}, []spot{{0, 0}, {0, 1}, {1, 0}}},
		{func(d *disk.Disk) { d.Write(0, 0, "a"); d.Write(1, 0, "b"); d.Write(0, 64, "c"); d.Truncate(0, 65) }, []spot{{1, 0}}},
		{func(d *disk.Disk) { d.Write(0, 0, "a"); d.Lose(1); d.Sync(0); d.Write(0, 64, "b"); d.Write(0, 0, "c") }, []spot{{0, 0}, {0, 1}}},
		{func(d *disk.Disk) {
			d.Write(0, 0, "a")
			d.Write(0, -1, "b")
			d.Write(0, limit, "c")
			d.Write(16, 0, "d")
			d.Write(0, 64, "e")
		}, []spot{{0, 0}, {0, 1}}},
		{func(d *disk.Disk) { d.Write(0, 0, "a"); d.Crash([]int{1}); d.Start(); d.Write(1, 0, "b") }, []spot{{1, 0}}},
	} {
		if got := pending(c.build); !slices.Equal(got, c.want) {
			t.Errorf("%d: pending are %v, not %v", i, got, c.want)
		}
	}
}

// P2.2: bytes 0 before what is written are pending only in its first sector.
func TestPendingZeros(t *testing.T) {
	d := disk.New()
	ok(t, d.Write(0, 0, "abc"), d.Sync(0), d.Write(0, 200, "z"))
	has(t, d, 0, "abc"+zeros(197)+"z")
	after(t, d, nil, 0, "abc")
	after(t, d, []int{1}, 0, "abc"+zeros(197)+"z")
	ok(t, d.Write(0, 400, "y"), d.Write(0, 330, ""))
	after(t, d, []int{1, 0}, 0, "abc"+zeros(197)+"z"+zeros(55))
	after(t, d, []int{0, 1}, 0, "abc"+zeros(397)+"y")
	after(t, d, []int{0, 0, 1}, 0, "abc")
}

// P2.2: a sync that is due to be lost changes nothing but the number of those.
func TestSync(t *testing.T) {
	d := disk.New()
	ok(t, d.Write(0, 0, "abc"), d.Write(1, 0, "def"))
	d.Lose(2)
	fails(t, api.ErrLost, d.Sync(0))
	after(t, d, nil, 0, "")
	after(t, d, []int{1, 0}, 0, "abc") // so it is pending, and still the first
	fails(t, api.ErrLost, d.Sync(5))
	after(t, d, nil, 0, "")
	ok(t, d.Sync(0))
	after(t, d, nil, 0, "abc")
	after(t, d, nil, 1, "") // only the file that is named
	after(t, d, []int{1}, 1, "def")
	ok(t, d.Sync(0), d.Sync(1), d.Sync(7))
	after(t, d, nil, 1, "def")
	ok(t, d.Write(0, 1, "XYZ"), d.Sync(0), d.Write(0, 0, "W"))
	has(t, d, 0, "WXYZ")
	after(t, d, nil, 0, "aXYZ")
	ok(t, d.Write(0, 500, "far"), d.Sync(0))
	after(t, d, nil, 0, "WXYZ"+zeros(496)+"far")
}

// P2.2: the first bytes become the file and its durable part; the others are gone for good.
func TestTruncate(t *testing.T) {
	for _, was := range []int{0, 1, 64, 65, 100, 128, 300} {
		for _, size := range []int{math.MinInt, -1, 0, 1, 63, 64, 65, was - 1, was, was + 1, was + 64, limit, math.MaxInt} {
			for synced := range 2 {
				d := disk.New()
				ok(t, d.Write(0, 0, strings.Repeat("o", was)), d.Write(1, 0, "other"))
				if synced == 1 {
					ok(t, d.Sync(0))
				}
				ok(t, d.Write(0, 0, text(was)))
				d.Lose(1)
				if e := d.Truncate(0, size); size < 0 || size > was {
					fails(t, api.ErrArg, e)
					has(t, d, 0, text(was))
					after(t, d, nil, 0, strings.Repeat("o", was*synced))
					after(t, d, []int{1}, 0, text(was))
					continue
				} else {
					ok(t, e)
				}
				has(t, d, 0, text(was)[:size])
				after(t, d, nil, 0, text(was)[:size])
				after(t, d, []int{1}, 0, text(was)[:size])
				after(t, d, nil, 1, "")
				after(t, d, []int{1}, 1, "other")
				fails(t, api.ErrLost, d.Sync(0)) // a truncation is no sync
				ok(t, d.Write(0, size+70, "z"))
				has(t, d, 0, text(was)[:size]+zeros(70)+"z")
				after(t, d, []int{1}, 0, text(was)[:size]+zeros(70)+"z")
				if t.Failed() {
					t.Fatalf("%d bytes truncated to %d", was, size)
				}
			}
		}
	}
}

// P2.2: a call that returns an error changes nothing, except that a lost sync is used up.
func TestErrorsChangeNothing(t *testing.T) {
	build := func() *disk.Disk {
		d := disk.New()
		ok(t, d.Write(0, 0, text(200)), d.Sync(0), d.Write(0, 64, "pending"), d.Write(15, 3, "more"), d.Write(0, 5, "and"))
		d.Lose(1)
		return d
	}
	failing := []func(d *disk.Disk) api.Errno{
		func(d *disk.Disk) api.Errno { return d.Write(0, -1, "x") },
		func(d *disk.Disk) api.Errno { return d.Write(0, limit, "x") },
		func(d *disk.Disk) api.Errno { return d.Write(0, math.MaxInt, "x") },
		func(d *disk.Disk) api.Errno { return d.Write(16, 0, "x") },
		func(d *disk.Disk) api.Errno { return d.Write(-1, 0, "x") },
		func(d *disk.Disk) api.Errno { return d.Sync(16) },
		func(d *disk.Disk) api.Errno { return d.Sync(-1) },
		func(d *disk.Disk) api.Errno { return d.Truncate(0, -1) },
		func(d *disk.Disk) api.Errno { return d.Truncate(0, 201) },
		func(d *disk.Disk) api.Errno { return d.Truncate(15, 8) },
		func(d *disk.Disk) api.Errno { return d.Truncate(16, 0) },
		func(d *disk.Disk) api.Errno { _, e := d.Read(0, -1, 1); return e },
		func(d *disk.Disk) api.Errno { _, e := d.Read(0, 0, -1); return e },
		func(d *disk.Disk) api.Errno { _, e := d.Read(16, 0, 1); return e },
	}
	for i, call := range failing {
		for mask := range 8 {
			a, b := build(), build()
			if call(a) == api.OK {
				t.Fatalf("call %d does not fail", i)
			}
			for f := range 16 {
				s, _ := b.Read(f, 0, limit)
				has(t, a, f, s)
			}
			fails(t, api.ErrLost, a.Sync(0), b.Sync(0))
			keep := []int{mask & 1, mask >> 1 & 1, mask >> 2 & 1, 0}
			a.Crash(keep)
			b.Crash(keep)
			a.Start()
			b.Start()
			for f := range 16 {
				s, _ := b.Read(f, 0, limit)
				has(t, a, f, s)
			}
			ok(t, a.Sync(0))
		}
	}
}

// P3: elements that a slice has beyond its length are not read, and arguments are neither kept nor changed.
func TestKeepIsNotKept(t *testing.T) {
	long := []int{1, 0, 1, 1}
	d := disk.New()
	ok(t, d.Write(0, 0, text(256)))
	c, e := d.Copy(), d.Copy()
	d.Crash(long[:2])
	d.Start()
	has(t, d, 0, text(64)+zeros(64)+text(192)[128:])
	c.Arm(1, long[:2])
	e.Arm(2, long[:1])
	long[0], long[1] = 0, 1
	fails(t, api.ErrDown, c.Sync(0))
	c.Start()
	has(t, c, 0, text(64)+zeros(64)+text(192)[128:])
	f := e.Copy()
	ok(t, e.Write(1, 0, "a"), f.Write(1, 0, "a"))
	fails(t, api.ErrDown, e.Sync(0), f.Sync(0))
	e.Start()
	f.Start()
	has(t, e, 0, text(256))
	has(t, f, 0, text(256))
	if !slices.Equal(long, []int{0, 1, 1, 1}) {
		t.Errorf("the argument is now %v", long)
	}
}
