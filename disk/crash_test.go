package disk_test

import (
	"fmt"
	"math"
	"slices"
	"strings"
	"testing"

	"lading/api"
	"lading/disk"
)

// The examples of the chapter.
func TestExamples(t *testing.T) {
	torn := func(d *disk.Disk) { ok(t, d.Write(0, 0, "abc"), d.Sync(0), d.Write(0, 1, "XY")) }
	for i, c := range []struct {
		build func(d *disk.Disk)
		keep  []int
		want  string
	}{
		{torn, []int{1}, "aXY"},
		{torn, []int{0}, "abc"},
		{torn, nil, "abc"},
		{func(d *disk.Disk) { ok(t, d.Write(0, 62, "abcd")) }, []int{0, 1}, zeros(64) + "cd"},
		{func(d *disk.Disk) { ok(t, d.Write(0, 0, strings.Repeat("x", 200))) }, []int{1, 0}, strings.Repeat("x", 64) + zeros(64) + strings.Repeat("x", 64)},
	} {
		d := disk.New()
		c.build(d)
		d.Crash(c.keep)
		d.Start()
		if has(t, d, 0, c.want); t.Failed() {
			t.Fatalf("example %d", i)
		}
	}
}

// P2.3: the number of lost syncs is set, and never negative.
func TestLose(t *testing.T) {
	for _, c := range []struct {
		set  []int
		want int
	}{
		{nil, 0}, {[]int{0}, 0}, {[]int{1}, 1}, {[]int{3}, 3}, {[]int{-1}, 0}, {[]int{math.MinInt}, 0},
		{[]int{3, 1}, 1}, {[]int{1, 3}, 3}, {[]int{2, 2}, 2}, {[]int{3, 0}, 0}, {[]int{3, -1}, 0}, {[]int{-5, 2}, 2}, {[]int{2, math.MinInt}, 0},
	} {
		d := disk.New()
		for _, n := range c.set {
			d.Lose(n)
		}
		for range c.want {
			fails(t, api.ErrLost, d.Sync(0))
		}
		if ok(t, d.Sync(0), d.Sync(1)); t.Failed() {
			t.Fatalf("Lose with %v", c.set)
		}
	}
	d := disk.New()
	d.Lose(math.MaxInt)
	for f := range 16 {
		fails(t, api.ErrLost, d.Sync(f))
	}
}

// P2.3: lost syncs stay due over a crash, and can be set while the machine is down.
func TestLoseOverCrash(t *testing.T) {
	d := disk.New()
	d.Lose(2)
	fails(t, api.ErrLost, d.Sync(0))
	d.Crash([]int{1})
	fails(t, api.ErrDown, d.Sync(0))
	d.Start()
	fails(t, api.ErrLost, d.Sync(0))
	ok(t, d.Sync(0))
	d.Lose(1)
	d.Arm(1, nil)
	fails(t, api.ErrDown, d.Sync(0)) // which is not performed, so it uses none up
	d.Start()
	fails(t, api.ErrLost, d.Sync(0))
	d.Lose(1)
	d.Crash(nil)
	d.Lose(2)
	d.Start()
	fails(t, api.ErrLost, d.Sync(0), d.Sync(0))
	ok(t, d.Sync(0))
}

// fives writes five sectors that become pending in an order of their own, over durable ones; it returns what the file was and is, and the order.
func fives(d *disk.Disk) (was, is string, order []int) {
	was = strings.Repeat("-", 320)
	d.Write(6, 0, was)
	d.Sync(6)
	order = []int{3, 0, 4, 1, 2}
	for _, n := range order {
		d.Write(6, 64*n, text(64 + n)[n:])
	}
	is, _ = d.Read(6, 0, limit)
	return was, is, order
}

// P2.3: the sector with the index i survives if the element with the index i modulo the length is odd.
func TestKeep(t *testing.T) {
	for _, c := range []struct {
		keep    []int
		survive string // a letter for each index: y or n
	}{
		{nil, "nnnnn"}, {[]int{}, "nnnnn"},
		{[]int{0}, "nnnnn"}, {[]int{1}, "yyyyy"}, {[]int{2}, "nnnnn"}, {[]int{3}, "yyyyy"}, {[]int{-1}, "yyyyy"}, {[]int{-2}, "nnnnn"}, {[]int{-3}, "yyyyy"},
		{[]int{math.MaxInt}, "yyyyy"}, {[]int{math.MinInt}, "nnnnn"}, {[]int{math.MinInt + 1}, "yyyyy"}, {[]int{math.MaxInt - 1}, "nnnnn"},
		{[]int{1, 0}, "ynyny"}, {[]int{0, 1}, "nynyn"}, {[]int{-1, 4}, "ynyny"}, {[]int{-4, -5}, "nynyn"}, {[]int{0, 0, 7}, "nnynn"}, {[]int{1, 0, 0}, "ynnyn"}, {[]int{2, 4, 6, 1}, "nnnyn"}, {[]int{1, 2, 2, 2}, "ynnny"},
		{[]int{1, 0, 0, 0, 0}, "ynnnn"}, {[]int{0, 1, 0, 0, 0}, "nynnn"}, {[]int{0, 0, 1, 0, 0}, "nnynn"}, {[]int{0, 0, 0, 1, 0}, "nnnyn"}, {[]int{0, 0, 0, 0, 1}, "nnnny"}, {[]int{1, 1, 0, 1, 1}, "yynyy"},
		{[]int{0, 0, 0, 0, 0, 1}, "nnnnn"}, {[]int{1, 0, 0, 0, 1, 1, 1, 1, 1}, "ynnny"}, {make([]int, 1000), "nnnnn"}, {[]int{0, 1, 0, 1, 1, 0, 1, 0}, "nynyy"},
	} {
		d := disk.New()
		was, is, order := fives(d)
		want := was
		for i, n := range order {
			if c.survive[i] == 'y' {
				want = put(want, 64*n, bytesOf(is, n))
			}
		}
		before := slices.Clone(c.keep)
		d.Crash(c.keep)
		d.Start()
		if has(t, d, 6, want); t.Failed() || !slices.Equal(before, c.keep) {
			t.Fatalf("Crash(%v): not %s", before, c.survive)
		}
	}
}

// P2.3: sectors of several files are in one list.
func TestKeepFiles(t *testing.T) {
	for mask := range 32 {
		d := disk.New()
		ok(t, d.Write(9, 0, "old"), d.Sync(9), d.Write(2, 64, "a"), d.Write(9, 1, "b"), d.Write(0, 10, "c"), d.Write(2, 0, "d"), d.Write(9, 128, "e"))
		var keep []int
		for i := range 5 {
			keep = append(keep, mask>>i&1)
		}
		d.Crash(keep)
		d.Start()
		kept := func(i int, with, without string) string {
			if keep[i] == 1 {
				return with
			}
			return without
		}
		two := kept(3, "d"+zeros(63), "") // a whole sector of the file, though less was written
		nine := kept(1, "obd"+zeros(61), "old")
		has(t, d, 2, kept(0, put(two, 64, "a"), two))
		has(t, d, 9, kept(4, put(nine, 128, "e"), nine))
		has(t, d, 0, kept(2, zeros(10)+"c", ""))
		if t.Failed() {
			t.Fatalf("Crash(%v)", keep)
		}
	}
}

// P2.3: behind the end of the durable part bytes 0 are put before a sector that survives, whatever the order is.
func TestKeepBehindEnd(t *testing.T) {
	build := func() *disk.Disk {
		d := disk.New()
		ok(t, d.Write(1, 0, text(70)), d.Sync(1), d.Write(1, 400, "far"), d.Write(1, 200, strings.Repeat("m", 100)), d.Write(1, 68, "xyz"))
		return d // pending: sectors 6, 3, 4, 1
	}
	old := text(70)
	for _, c := range []struct {
		keep []int
		want string
	}{
		{[]int{0}, old},
		{[]int{1, 0, 0, 0}, old + zeros(330) + "far"},
		{[]int{0, 1, 0, 0}, old + zeros(130) + strings.Repeat("m", 56)},
		{[]int{0, 0, 1, 0}, old + zeros(186) + strings.Repeat("m", 44) + zeros(20)},
		{[]int{0, 0, 0, 1}, old[:68] + "xyz" + zeros(57)},
		{[]int{1, 1, 0, 0}, old + zeros(130) + strings.Repeat("m", 56) + zeros(144) + "far"},
		{[]int{1, 0, 0, 1}, old[:68] + "xyz" + zeros(329) + "far"},
		{[]int{1, 1, 1, 1}, old[:68] + "xyz" + zeros(129) + strings.Repeat("m", 100) + zeros(100) + "far"},
	} {
		d := build()
		d.Crash(c.keep)
		d.Start()
		has(t, d, 1, c.want)
		after(t, d, []int{1}, 1, c.want)
		// What was lost does not come back when the file grows again.
		ok(t, d.Write(1, 600, "!"))
		has(t, d, 1, c.want+zeros(600-len(c.want))+"!")
		after(t, d, []int{1}, 1, c.want+zeros(600-len(c.want))+"!")
		if t.Failed() {
			t.Fatalf("Crash(%v)", c.keep)
		}
	}
}

// P2.3: after a crash the files are their durable parts, and nothing is pending.
func TestCrashSettles(t *testing.T) {
	d := disk.New()
	ok(t, d.Write(0, 0, "durable"), d.Sync(0), d.Write(0, 0, "D"), d.Write(1, 0, "new"), d.Write(2, 64, "end"))
	d.Crash([]int{1, 0, 0})
	if d.Size(0) != 7 || d.Size(1) != 0 {
		t.Errorf("sizes %d and %d while down", d.Size(0), d.Size(1))
	}
	d.Start()
	has(t, d, 0, "Durable")
	has(t, d, 1, "")
	d.Crash([]int{1})
	d.Start()
	has(t, d, 0, "Durable")
	has(t, d, 1, "")
	has(t, d, 2, "")
	ok(t, d.Write(0, 1, "-"), d.Write(2, 0, "x"))
	d.Crash([]int{1, 0})
	d.Start()
	has(t, d, 0, "D-rable")
	has(t, d, 2, "")
}

// P2.3: a crash of a machine that is down does nothing; so what was scheduled meanwhile stays.
func TestCrashDown(t *testing.T) {
	d := disk.New()
	ok(t, d.Write(0, 0, "abc"), d.Sync(0), d.Write(0, 0, "xyz"), d.Write(1, 0, "new"))
	d.Crash([]int{0, 1})
	d.Crash([]int{1})
	d.Lose(1)
	d.Arm(2, []int{1})
	d.Crash([]int{1})
	d.Crash(nil)
	if d.Size(0) != 3 || d.Size(1) != 3 || !d.Down() {
		t.Errorf("sizes %d and %d, Down %v", d.Size(0), d.Size(1), d.Down())
	}
	d.Start()
	has(t, d, 0, "abc")
	has(t, d, 1, "new")
	fails(t, api.ErrLost, d.Sync(0))
	fails(t, api.ErrDown, d.Write(0, 1, "-"))
	d.Start()
	has(t, d, 0, "a-c")
}

// P2.3: Start of a machine that is up does nothing.
func TestStartUp(t *testing.T) {
	d := disk.New()
	d.Lose(1)
	d.Arm(3, []int{0, 1})
	ok(t, d.Write(0, 0, "a"))
	d.Start()
	fails(t, api.ErrLost, d.Sync(0))
	d.Start()
	has(t, d, 0, "a")
	fails(t, api.ErrDown, d.Write(0, 64, "b"))
	d.Start()
	has(t, d, 0, zeros(64)+"b")
}

// P2.4: with a number below 1 no crash is scheduled, and one that was is not any more.
func TestArmNone(t *testing.T) {
	for _, n := range []int{0, -1, -2, math.MinInt, math.MinInt + 1} {
		for _, before := range []int{0, 1, 2, 5} {
			d := disk.New()
			d.Arm(before, []int{1})
			d.Arm(n, []int{1})
			for range 10 {
				ok(t, d.Write(0, 0, "a"), d.Sync(0), d.Truncate(0, 0))
			}
			if d.Down() {
				t.Errorf("Arm(%d) after Arm(%d): down", n, before)
			}
		}
	}
}

// P2.4: the crash happens at the n-th call, not before it, and only once.
func TestArm(t *testing.T) {
	for n := 1; n < 30; n++ {
		d := disk.New()
		d.Arm(n, []int{1})
		for i := range n - 1 {
			ok(t, d.Write(0, i, "x"))
		}
		if d.Down() {
			t.Fatalf("down before call %d", n)
		}
		fails(t, api.ErrDown, d.Write(0, n-1, "x"))
		if !d.Down() {
			t.Fatalf("up after call %d", n)
		}
		fails(t, api.ErrDown, d.Write(0, n, "y"), d.Sync(0), d.Truncate(0, 0))
		d.Start()
		has(t, d, 0, strings.Repeat("x", n))
		for range 3 * n {
			ok(t, d.Write(0, 0, "z"))
		}
	}
	d := disk.New()
	d.Arm(math.MaxInt, []int{1})
	for range 100 {
		ok(t, d.Write(0, 0, "z"), d.Sync(0))
	}
}

// P2.4: only Write, Sync and Truncate are counted, also when they fail.
func TestArmCounts(t *testing.T) {
	for i, c := range []struct {
		call  func(d *disk.Disk)
		calls int
	}{
		{func(d *disk.Disk) { d.Write(0, 0, "x") }, 1}, {func(d *disk.Disk) { d.Write(0, 0, "") }, 1}, {func(d *disk.Disk) { d.Sync(0) }, 1}, {func(d *disk.Disk) { d.Truncate(0, 0) }, 1},
		{func(d *disk.Disk) { d.Truncate(0, d.Size(0)) }, 1}, {func(d *disk.Disk) { d.Sync(9) }, 1},
		{func(d *disk.Disk) { d.Write(16, 0, "x") }, 1}, {func(d *disk.Disk) { d.Write(0, -1, "x") }, 1}, {func(d *disk.Disk) { d.Write(0, limit, "x") }, 1}, {func(d *disk.Disk) { d.Write(0, limit+1, "") }, 1},
		{func(d *disk.Disk) { d.Sync(16) }, 1}, {func(d *disk.Disk) { d.Sync(-1) }, 1}, {func(d *disk.Disk) { d.Lose(1); d.Sync(0) }, 1}, {func(d *disk.Disk) { d.Lose(2); d.Sync(0); d.Sync(0) }, 2},
		{func(d *disk.Disk) { d.Truncate(0, -1) }, 1}, {func(d *disk.Disk) { d.Truncate(0, 999) }, 1}, {func(d *disk.Disk) { d.Truncate(16, 0) }, 1},
		{func(d *disk.Disk) { d.Read(0, 0, 9) }, 0}, {func(d *disk.Disk) { d.Read(0, -1, 9) }, 0}, {func(d *disk.Disk) { d.Read(16, 0, 9) }, 0}, {func(d *disk.Disk) { d.Size(0); d.Size(16) }, 0},
		{func(d *disk.Disk) { d.Down() }, 0}, {func(d *disk.Disk) { d.Copy() }, 0}, {func(d *disk.Disk) { d.Copy().Write(0, 0, "x") }, 0}, {func(d *disk.Disk) { d.Lose(0); d.Lose(3); d.Lose(-1) }, 0}, {func(d *disk.Disk) { d.Start() }, 0},
		{func(d *disk.Disk) { d.Write(0, 0, "x"); d.Sync(0); d.Read(0, 0, 1); d.Truncate(0, 0) }, 3},
	} {
		d := disk.New()
		ok(t, d.Write(0, 0, "abc"))
		d.Arm(5, nil)
		c.call(d)
		d.Lose(0)
		for range 4 - c.calls {
			ok(t, d.Sync(15))
		}
		if e := d.Sync(15); e != api.ErrDown || !d.Down() {
			t.Errorf("case %d: the fifth call returned %d, Down %v", i, e, d.Down())
		}
	}
}

// P2.4: calls while the machine is down are not counted.
func TestArmWhileDown(t *testing.T) {
	d := disk.New()
	d.Crash(nil)
	d.Arm(2, []int{1})
	for range 5 {
		fails(t, api.ErrDown, d.Write(0, 0, "x"), d.Sync(0), d.Truncate(0, 0), d.Sync(16))
	}
	d.Start()
	ok(t, d.Write(0, 0, "a"))
	fails(t, api.ErrDown, d.Write(0, 1, "b"))
	d.Start()
	has(t, d, 0, "ab")
}

// P2.4: the call with the crash is performed only if it is a Write that would have returned OK; it returns ErrDown in any case.
func TestArmLastCall(t *testing.T) {
	for i, c := range []struct {
		call          func(d *disk.Disk) api.Errno
		all, none, at string // the file 0 if everything survives, if nothing does, and if only the sector of file 1 does
		one           string // the file 1 if it survives
	}{
		{func(d *disk.Disk) api.Errno { return d.Write(0, 1, "W") }, "aWc+", "abc", "abc", "new"},
		{func(d *disk.Disk) api.Errno { return d.Write(0, 3, "+W") }, "abc+W", "abc", "abc", "new"},
		{func(d *disk.Disk) api.Errno { return d.Write(0, 70, "W") }, "abc+" + zeros(66) + "W", "abc", "abc" + zeros(67) + "W", "new"},
		{func(d *disk.Disk) api.Errno { return d.Write(1, 0, "NEW!") }, "abc+", "abc", "abc", "NEW!"},
		{func(d *disk.Disk) api.Errno { return d.Write(0, 1, "") }, "abc+", "abc", "abc", "new"},
		{func(d *disk.Disk) api.Errno { return d.Write(0, limit, "W") }, "abc+", "abc", "abc", "new"},
		{func(d *disk.Disk) api.Errno { return d.Write(0, -1, "W") }, "abc+", "abc", "abc", "new"},
		{func(d *disk.Disk) api.Errno { return d.Write(16, 0, "W") }, "abc+", "abc", "abc", "new"},
		{func(d *disk.Disk) api.Errno { return d.Sync(0) }, "abc+", "abc", "abc", "new"},
		{func(d *disk.Disk) api.Errno { return d.Sync(1) }, "abc+", "abc", "abc", "new"},
		{func(d *disk.Disk) api.Errno { return d.Sync(16) }, "abc+", "abc", "abc", "new"},
		{func(d *disk.Disk) api.Errno { return d.Truncate(0, 1) }, "abc+", "abc", "abc", "new"},
		{func(d *disk.Disk) api.Errno { return d.Truncate(0, 4) }, "abc+", "abc", "abc", "new"},
		{func(d *disk.Disk) api.Errno { return d.Truncate(1, 0) }, "abc+", "abc", "abc", "new"},
		{func(d *disk.Disk) api.Errno { return d.Truncate(0, 5) }, "abc+", "abc", "abc", "new"},
	} {
		for _, keep := range [][]int{{1}, nil, {0, 1, 1}} { // the third is that of a sector that only this call may have added
			for n := 1; n < 3; n++ {
				d := disk.New()
				ok(t, d.Write(0, 0, "abc"), d.Sync(0), d.Write(0, 3, "+"), d.Write(1, 0, "new"))
				d.Arm(n, keep)
				if n == 2 {
					ok(t, d.Write(0, 2, "c"))
				}
				fails(t, api.ErrDown, c.call(d))
				if !d.Down() {
					t.Fatalf("case %d: up after the crash", i)
				}
				d.Start()
				file0, file1 := c.all, c.one
				switch len(keep) {
				case 0:
					file0, file1 = c.none, ""
				case 3:
					file0 = c.at
				}
				has(t, d, 0, file0)
				if has(t, d, 1, file1); t.Failed() {
					t.Fatalf("case %d, Arm(%d, %v)", i, n, keep)
				}
			}
		}
	}
}

// P2.4: another Arm replaces the schedule, with the number and with what survives.
func TestArmAgain(t *testing.T) {
	for _, first := range []int{1, 2, 3, 9} {
		for _, second := range []int{1, 2, 3, 9} {
			d := disk.New()
			d.Arm(first, []int{0})
			for range min(first, 2) - 1 {
				ok(t, d.Write(0, 0, "early"))
			}
			d.Arm(second, []int{1})
			for range second - 1 {
				ok(t, d.Write(0, 0, "a"))
			}
			fails(t, api.ErrDown, d.Write(0, 0, "last!"))
			d.Start()
			has(t, d, 0, "last!")
			for range 20 {
				ok(t, d.Write(0, 0, "a"))
			}
		}
	}
	d := disk.New()
	d.Arm(1, []int{1})
	d.Arm(1, nil)
	fails(t, api.ErrDown, d.Write(0, 0, "a"))
	d.Start()
	has(t, d, 0, "")
}

// P2.4: a crash cancels the schedule, the one that was scheduled and another one.
func TestArmCancelled(t *testing.T) {
	for n := 1; n < 5; n++ {
		d := disk.New()
		d.Arm(n, []int{1})
		d.Crash(nil)
		d.Start()
		for range 10 {
			ok(t, d.Write(0, 0, "a"), d.Sync(0), d.Truncate(0, 0))
		}
		d.Arm(2, nil)
		ok(t, d.Sync(0))
		fails(t, api.ErrDown, d.Sync(0))
		d.Start()
		for range 10 {
			ok(t, d.Write(0, 0, "a"), d.Sync(0), d.Truncate(0, 0))
		}
	}
}

// scenarios are calls that leave up to 8 pending sectors.
func scenarios() []func(d *disk.Disk) {
	return []func(d *disk.Disk){
		func(d *disk.Disk) { d.Write(0, 0, text(500)) },
		func(d *disk.Disk) { d.Write(0, 0, text(300)); d.Sync(0); d.Write(0, 20, strings.Repeat("#", 310)) },
		func(d *disk.Disk) {
			d.Write(0, 0, text(100))
			d.Sync(0)
			d.Write(0, 500, "end")
			d.Write(0, 300, text(80))
			d.Write(0, 90, text(30))
			d.Write(0, 10, "in")
		},
		func(d *disk.Disk) {
			d.Write(0, 0, text(200))
			d.Write(1, 0, text(200))
			d.Sync(1)
			d.Write(1, 60, zeros(20))
			d.Write(2, 70, "x")
			d.Truncate(2, 66)
			d.Write(2, 80, "y")
		},
		func(d *disk.Disk) {
			d.Write(15, 0, text(400))
			d.Sync(15)
			d.Truncate(15, 100)
			d.Write(15, 130, "gap")
			d.Write(15, 350, text(10))
			d.Lose(1)
			d.Sync(15)
			d.Write(15, 0, "again")
		},
		func(d *disk.Disk) {
			d.Write(0, 0, text(200))
			d.Crash([]int{0, 1})
			d.Start()
			d.Write(0, 190, text(70))
			d.Write(0, 1, "back")
		},
	}
}

// P2.5: with each choice of survivors, each byte is the durable one, the one of the file, or 0, sector by sector.
func TestAllChoices(t *testing.T) {
	for i, build := range scenarios() {
		now, down := disk.New(), disk.New()
		build(now)
		build(down)
		down.Crash(nil)
		down.Start()
		list := pending(build)
		for mask := range 1 << len(list) {
			d := disk.New()
			build(d)
			keep, survives := make([]int, len(list)), map[spot]bool{}
			for k, x := range list {
				keep[k] = mask >> k & 1
				survives[x] = keep[k] == 1
			}
			d.Crash(keep)
			d.Start()
			for f := range 16 {
				file, _ := now.Read(f, 0, limit)
				durable, _ := down.Read(f, 0, limit)
				got, _ := d.Read(f, 0, limit)
				if why := wrong(got, file, durable, func(n int) bool { return survives[spot{f, n}] }); why != "" {
					t.Fatalf("scenario %d, Crash(%v), file %d: %s", i, keep, f, why)
				}
			}
		}
	}
}

// wrong says what is wrong with a file after a crash, given what it was, its durable part, and which of its pending sectors survived.
func wrong(got, file, durable string, survived func(n int) bool) string {
	size := len(durable)
	for n := 0; 64*n < len(file); n++ {
		if survived(n) {
			size = max(size, min(64*n+64, len(file)))
		}
	}
	if len(got) != size || size < len(durable) || size > len(file) {
		return fmt.Sprintf("it has %d bytes, not %d", len(got), size)
	}
	for i := range got {
		want := byte(0)
		switch {
		case survived(i / 64):
			want = file[i]
		case i < len(durable):
			want = durable[i]
		}
		if got[i] != want {
			return fmt.Sprintf("byte %d is %q, not %q", i, got[i], want)
		}
	}
	return ""
}

// P2.5: Truncate is done wholly or not at all, at whichever call the machine goes down.
func TestTruncateAtomic(t *testing.T) {
	for size := 0; size <= 200; size += 10 {
		for n := 1; n < 5; n++ {
			for _, keep := range [][]int{nil, {1}, {1, 0}} {
				d := disk.New()
				ok(t, d.Write(0, 0, text(200)), d.Sync(0))
				d.Arm(n, keep)
				d.Write(1, 0, "before")
				e := d.Truncate(0, size)
				d.Write(1, 0, "after")
				d.Sync(1)
				if d.Start(); e == api.OK {
					has(t, d, 0, text(200)[:size])
				} else {
					has(t, d, 0, text(200))
				}
				if (e == api.OK) != (n > 2) {
					t.Errorf("Arm(%d): Truncate returned %d", n, e)
				}
			}
		}
	}
}

// P2.5: what a truncation cut off is in no later crash.
func TestTruncatedStaysAway(t *testing.T) {
	for _, size := range []int{0, 1, 10, 64, 100, 128, 190} {
		d := disk.New()
		ok(t, d.Write(0, 0, text(200)), d.Sync(0), d.Truncate(0, size), d.Write(0, size, "q"), d.Write(0, 500, "z"))
		after(t, d, nil, 0, text(size))
		after(t, d, []int{1, 0}, 0, text(size)+"q"+zeros(63-size%64))
		after(t, d, []int{0, 1}, 0, text(size)+zeros(500-size)+"z")
		after(t, d, []int{1}, 0, text(size)+"q"+zeros(499-size)+"z")
	}
}

// P2.6: what was synced and not written since stays, whatever happens to other sectors and files, and whatever survives.
func TestSyncedStays(t *testing.T) {
	for i, then := range []func(d *disk.Disk){
		func(d *disk.Disk) {},
		func(d *disk.Disk) { d.Write(4, 0, text(500)) },
		func(d *disk.Disk) { d.Write(4, 0, text(500)); d.Sync(4); d.Truncate(4, 10) },
		func(d *disk.Disk) { d.Write(4, 0, text(500)); d.Lose(1); d.Sync(4); d.Lose(1); d.Sync(3) },
		func(d *disk.Disk) { d.Write(3, 128, "changed") },
		func(d *disk.Disk) { d.Write(3, 128, "changed"); d.Lose(1); d.Sync(3) },
		func(d *disk.Disk) { d.Write(3, 640, "far behind"); d.Write(3, 250, text(100)) },
		func(d *disk.Disk) { d.Write(3, 0, ""); d.Write(3, 0, text(limit+1)); d.Write(3, -1, "x") },
		func(d *disk.Disk) { d.Truncate(3, 128); d.Write(3, 300, "again") },
		func(d *disk.Disk) { d.Write(0, 0, "x"); d.Crash([]int{1}); d.Start(); d.Write(0, 64, "y") },
		func(d *disk.Disk) { d.Arm(2, []int{1}); d.Write(5, 0, "x"); d.Truncate(3, 0); d.Start() },
		func(d *disk.Disk) { d.Arm(1, []int{0}); d.Sync(3); d.Start() },
	} {
		for _, keep := range [][]int{nil, {1}, {0, 1}, {1, 0}, {0, 0, 1}} {
			d := disk.New()
			ok(t, d.Write(3, 0, strings.Repeat("-", 256)), d.Sync(3), d.Write(3, 0, text(256)), d.Sync(3))
			then(d)
			d.Crash(keep)
			d.Start()
			if s, e := d.Read(3, 0, 128); s != text(128) || e != api.OK {
				t.Fatalf("case %d, Crash(%v): %q, %d", i, keep, s, e)
			}
		}
	}
}
