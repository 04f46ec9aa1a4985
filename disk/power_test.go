package disk

import (
	"math"
	"slices"
	"testing"

	"portage/api"
)

// P10.4: Arm and Down

// someFiles answers files of which those that begin with s are safe.
func someFiles() []stands {
	return []stands{{"s1", "safe", 4}, {"s2", "", 0}, {"t1", "tail", 2}, {"t2", "all", 0}}
}

// changes answers one call after another that are changes of someFiles, each one on its own as well as one behind the other.
func changes() []called {
	return []called{
		appends("t1", "more"), appends("new", "x"), appends("s1", ""), appends("new2", ""),
		syncs("t1"), syncs("s1"), syncs("s2"),
		cuts("t1", 2), cuts("s1", 4), cuts("t2", 0),
		renames("s1", "s3"), renames("s3", "t2"), renames("t2", "t2"), renames("t2", "s1"),
		removes("s2"), removes("s1"), removes("t1"),
	}
}

func TestArm(t *testing.T) {
	for n := range len(changes()) + 1 {
		d := laid(t, 100, someFiles()...)
		unarmed := laid(t, 100, someFiles()...)
		ok(t, d.Arm(n))
		for i, c := range changes() {
			if d.Down() != (i >= n) {
				t.Fatalf("armed with %d, behind %d changes: %v", n, i, d.Down())
			}
			if i >= n {
				refuses(t, d, api.ErrDown, c)
				continue
			}
			answers(t, c.do(d), api.OK) // the last one, too, is done
			answers(t, c.do(unarmed), api.OK)
			checkFiles(t, d, filesOf(t, unarmed)...)
		}
	}
}

func TestEachChangeCounts(t *testing.T) {
	single := append([]called{
		renames("s1", "s1"), renames("s1", "t1"), renames("s2", "t2"), renames("s1", "free"),
		removes("s1"), removes("s2"), removes("t1"), cuts("t1", 0), cuts("t1", 4), cuts("s2", 0), syncs("t2"),
	}, changes()[:11]...)
	for _, c := range single {
		d, unarmed := laid(t, 100, someFiles()...), laid(t, 100, someFiles()...)
		ok(t, d.Arm(2))
		answers(t, c.do(d), api.OK)
		answers(t, c.do(unarmed), api.OK)
		want := look(t, unarmed)
		want.armed = 1
		checkView(t, d, want)
		ok(t, d.Sync("t2"))
		if !d.Down() {
			t.Errorf("behind %q and another change there is power", c.text)
		}
	}
}

func TestOnlyChangesCount(t *testing.T) {
	d := laid(t, 100, someFiles()...)
	ok(t, d.Arm(1))
	refuses(t, d, api.ErrFull, appends("t1", text(100)), appends("new", text(100)))
	refuses(t, d, api.ErrForm, ofName(t, "A")...)
	refuses(t, d, api.ErrNone, syncs("none"), cuts("none", 0), renames("none", "s1"), removes("none"), reads(t, "none"))
	refuses(t, d, api.ErrRange, cuts("t1", 5), cuts("t1", -1), called{"Limit", func(d *Disk) api.Errno { return d.Limit(-1) }})
	refuses(t, d, api.ErrState, renames("t1", "s1"))
	want := look(t, d)
	for range 3 {
		sameBytes(t, d, "t1", "tail")
		d.Safe("t1")
		d.Names()
		d.Used()
		d.Down()
		d.Fork()
		ok(t, d.Limit(100))
		checkView(t, d, want)
	}
	if want.armed != 1 {
		t.Errorf("armed with 1, and the power goes behind %d", want.armed)
	}
	ok(t, d.Sync("t1"))
	if !d.Down() {
		t.Error("there is power")
	}
}

func TestArmAtOnce(t *testing.T) {
	d := laid(t, 100, someFiles()...)
	was := filesOf(t, d)
	ok(t, d.Arm(0))
	checkView(t, d, view{files: was, used: d.Used(), limit: 100, down: true, armed: 0})
	refuses(t, d, api.ErrDown, changes()...)
}

func TestArmOnceMore(t *testing.T) {
	for _, first := range []int{-1, 1, 2, 5, 30} {
		for behind := range 3 {
			for _, second := range []int{-1, -2, math.MinInt, 0, 1, 2, 3, 30} {
				if first > 0 && behind >= first {
					continue
				}
				d := laid(t, 100, someFiles()...)
				ok(t, d.Arm(first))
				for range behind {
					ok(t, d.Sync("s1"))
				}
				want := look(t, d)
				want.armed = max(second, -1)
				want.down = second == 0
				ok(t, d.Arm(second))
				checkView(t, d, want)
			}
		}
	}
}

func TestArmWithMuch(t *testing.T) {
	for _, n := range []int{100, 255, 256, 257, 1000, 65536, 65537} {
		d := laid(t, 1, stands{"a", "", 0})
		ok(t, d.Arm(n))
		for i := range n {
			if d.Down() {
				t.Fatalf("armed with %d, no power behind %d", n, i)
			}
			ok(t, d.Sync("a"))
		}
		if !d.Down() {
			t.Errorf("armed with %d, and there is power", n)
		}
	}
	for _, n := range []int{1 << 31, 1 << 32, 1<<32 + 1, math.MaxInt - 1, math.MaxInt, -1, -2, -1 << 31, -1<<32 + 1, math.MinInt, math.MinInt + 1} {
		d := laid(t, 1, stands{"a", "", 0})
		ok(t, d.Arm(n))
		for range 1000 {
			ok(t, d.Sync("a"))
		}
		if d.Down() {
			t.Errorf("armed with %d, and there is no power", n)
		}
	}
}

func TestArmWithoutPower(t *testing.T) {
	d := powerless(t, 100, someFiles()...)
	for _, n := range []int{-1, 0, 1, 2, math.MinInt, math.MaxInt} {
		refuses(t, d, api.ErrDown, called{"Arm", func(d *Disk) api.Errno { return d.Arm(n) }})
	}
	d = laid(t, 100, someFiles()...)
	ok(t, d.Arm(1))
	ok(t, d.Sync("t1"))
	refuses(t, d, api.ErrDown, called{"Arm", func(d *Disk) api.Errno { return d.Arm(-1) }}, called{"Arm", func(d *Disk) api.Errno { return d.Arm(0) }})
	ok(t, d.Crash(nil))
	if look(t, d).armed != -1 { // nothing of it was taken
		t.Error("armed behind a crash")
	}
}

// P10.4: Crash

// states answers a disk with these files with power, armed, without power by Arm and by a change.
func states(t *testing.T, limit int, files ...stands) []*Disk {
	t.Helper()
	armed, gone := laid(t, limit, files...), laid(t, limit, files...)
	ok(t, armed.Arm(3))
	if len(files) > 0 {
		ok(t, gone.Arm(1))
		ok(t, gone.Cut(files[0].name, len(files[0].bytes)))
	}
	return []*Disk{laid(t, limit, files...), armed, powerless(t, limit, files...), gone}
}

func TestCrash(t *testing.T) {
	files := []stands{{"a", "safe", 4}, {"b", "bbbtail", 3}, {"c", "", 0}, {"d", "all", 0}, {"e", "eee1", 3}}
	for _, c := range []struct {
		keep []int
		want []string
	}{
		{nil, []string{"safe", "bbb", "", "", "eee"}},
		{[]int{}, []string{"safe", "bbb", "", "", "eee"}},
		{[]int{0, 0, 0, 0, 0}, []string{"safe", "bbb", "", "", "eee"}},
		{[]int{1, 2}, []string{"safe", "bbbta", "", "", "eee"}},
		{[]int{0, 0, 0, 2}, []string{"safe", "bbb", "", "al", "eee"}},
		{[]int{2, 1, 2, 1, 1}, []string{"safe", "bbbt", "", "a", "eee1"}},
		{[]int{9, 3, 9, 3, 0, 7, 8, 9}, []string{"safe", "bbbtai", "", "all", "eee"}},
		{[]int{9, 4, 9, 4, 2}, []string{"safe", "bbbtail", "", "all", "eee1"}},
		{[]int{-1, 5, -1, -1, 1}, []string{"safe", "bbbtail", "", "", "eee1"}},
		{[]int{-3, -3, -3, -3, -3}, []string{"safe", "bbb", "", "", "eee"}},
		{[]int{math.MinInt, math.MinInt, 1, math.MaxInt, math.MinInt}, []string{"safe", "bbb", "", "all", "eee"}},
		{[]int{math.MaxInt, math.MaxInt, math.MaxInt, math.MaxInt - 1, math.MaxInt - 4}, []string{"safe", "bbbtail", "", "all", "eee1"}},
		{[]int{1 << 32, 1<<32 + 1, 0, 1<<32 + 1, -1 << 32}, []string{"safe", "bbbtail", "", "all", "eee"}},
	} {
		want := view{limit: 25, armed: -1}
		for i, f := range files {
			want.files = append(want.files, stands{f.name, c.want[i], len(c.want[i])})
			want.used += len(c.want[i])
		}
		for _, d := range states(t, 25, files...) {
			keep := slices.Clone(c.keep)
			ok(t, d.Crash(c.keep))
			checkView(t, d, want)
			if !slices.Equal(c.keep, keep) {
				t.Errorf("keep is %d now", c.keep)
			}
			ok(t, d.Crash(c.keep)) // nothing has a tail any more
			checkView(t, d, want)
		}
	}
}

func TestCrashOfNoFiles(t *testing.T) {
	for _, keep := range [][]int{nil, {}, {1}, {-1, 0, 3}} {
		for _, d := range []*Disk{made(t, 7), powerless(t, 7)} {
			ok(t, d.Crash(keep))
			checkView(t, d, view{limit: 7, armed: -1})
		}
	}
}

func TestCrashGoesByNames(t *testing.T) {
	d := made(t, 100)
	for _, name := range []string{"z", "b", ".", "ab", "0", "a", "9", "aa"} {
		ok(t, d.Append(name, []byte("12345678")))
	}
	ok(t, d.Crash([]int{1, 2, 3, 4, 5, 6, 7, 8}))
	var want []stands
	for i, name := range []string{".", "0", "9", "a", "aa", "ab", "b", "z"} {
		want = append(want, stands{name, "12345678"[:i+1], i + 1})
	}
	checkFiles(t, d, want...)
}

func TestBehindACrashItGoesOn(t *testing.T) {
	for _, d := range states(t, 12, stands{"a", "xyzuv", 3}, stands{"b", "pq", 0}) {
		ok(t, d.Limit(9)) // it stays
		safe := d.Safe("a")
		ok(t, d.Crash([]int{1}))
		left := "xyzuv"[:min(safe+1, 5)]
		checkFiles(t, d, stands{"a", left, len(left)}, stands{"b", "", 0})
		refuses(t, d, api.ErrFull, appends("a", text(10-len(left))))
		ok(t, d.Append("a", []byte(text(9-len(left)))))
		checkFiles(t, d, stands{"a", left + text(9-len(left)), len(left)}, stands{"b", "", 0})
		ok(t, d.Crash(nil))
		checkFiles(t, d, stands{"a", left, len(left)}, stands{"b", "", 0})
		for range 100 {
			ok(t, d.Sync("a"))
		}
		ok(t, d.Arm(1))
		ok(t, d.Remove("b"))
		if !d.Down() {
			t.Error("armed behind a crash, and there is power")
		}
	}
}

// The last change ahead of the power's going is done, and is there behind a crash as far as it is safe.
func TestTheLastChangeIsThereBehindACrash(t *testing.T) {
	files := []stands{{"a", "xyz", 1}, {"b", "uv", 2}}
	for _, c := range []struct {
		last called
		want []stands
	}{
		{appends("a", "w"), []stands{{"a", "x", 1}, {"b", "uv", 2}}},
		{appends("c", "w"), []stands{{"a", "x", 1}, {"b", "uv", 2}, {"c", "", 0}}},
		{syncs("a"), []stands{{"a", "xyz", 3}, {"b", "uv", 2}}},
		{cuts("a", 2), []stands{{"a", "xy", 2}, {"b", "uv", 2}}},
		{cuts("b", 0), []stands{{"a", "x", 1}, {"b", "", 0}}},
		{renames("b", "a"), []stands{{"a", "uv", 2}}},
		{renames("b", "c"), []stands{{"a", "x", 1}, {"c", "uv", 2}}},
		{removes("a"), []stands{{"b", "uv", 2}}},
	} {
		d := laid(t, 100, files...)
		ok(t, d.Arm(1))
		answers(t, c.last.do(d), api.OK)
		refuses(t, d, api.ErrDown, syncs("a"), syncs("b"), syncs("c"))
		ok(t, d.Crash(nil))
		checkView(t, d, view{files: c.want, used: d.Used(), limit: 100, armed: -1})
	}
}

// P10.5

func TestBehindASyncOfAllACrashChangesNothing(t *testing.T) {
	for _, keep := range [][]int{nil, {}, {-1, -1, -1}, {9, 9, 9, 9, 9}, {1}} {
		d := laid(t, 100, someFiles()...)
		for _, name := range d.Names() {
			ok(t, d.Sync(name))
		}
		want := look(t, d)
		ok(t, d.Crash(keep))
		checkView(t, d, want)
		ok(t, d.Arm(0))
		ok(t, d.Crash(keep))
		checkView(t, d, want)
	}
}

// P10.3, P10.7

func TestFork(t *testing.T) {
	for _, d := range states(t, 30, someFiles()...) {
		was := look(t, d)
		fork := d.Fork()
		if fork == nil || fork == d {
			t.Fatalf("Fork: %p of %p", fork, d)
		}
		checkView(t, fork, was)
		checkView(t, fork.Fork(), was)
		checkView(t, d, was)
	}
	d := made(t, 5)
	checkView(t, d.Fork(), view{limit: 5, armed: -1})
}

func TestAForkGoesItsOwnWay(t *testing.T) {
	limit := called{"Limit", func(d *Disk) api.Errno { return d.Limit(7) }}
	arm := called{"Arm", func(d *Disk) api.Errno { return d.Arm(2) }}
	off := called{"Arm", func(d *Disk) api.Errno { return d.Arm(0) }}
	crash := called{"Crash", func(d *Disk) api.Errno { return d.Crash([]int{1, 1, 1, 1}) }}
	for _, c := range append(changes(), limit, arm, off, crash) {
		for _, way := range []bool{false, true} {
			for _, d := range states(t, 100, someFiles()...) {
				other := d.Fork()
				if way {
					d, other = other, d
				}
				was := look(t, other)
				c.do(d)
				checkView(t, other, was)
			}
		}
	}
}

// A fork's files lie in memory of their own, however much room lies behind their bytes.
func TestAForkSharesNoRoom(t *testing.T) {
	for n := range 70 {
		d := made(t, 1000)
		for i := range n {
			ok(t, d.Append("a", []byte{byte('0' + i%10)}))
		}
		ok(t, d.Append("a", nil))
		fork := d.Fork()
		ok(t, d.Append("a", []byte("one way")))
		ok(t, fork.Append("a", []byte("the other way")))
		ok(t, d.Append("a", []byte("!")))
		sameBytes(t, d, "a", text(n)+"one way!")
		sameBytes(t, fork, "a", text(n)+"the other way")
		p, _ := fork.Read("a")
		scribble(p)
		sameBytes(t, d, "a", text(n)+"one way!")
		sameBytes(t, fork, "a", text(n)+"the other way")
	}
}

func TestAForkHasItsOwnPower(t *testing.T) {
	d := laid(t, 100, someFiles()...)
	ok(t, d.Arm(2))
	ok(t, d.Sync("s1"))
	fork := d.Fork()
	ok(t, d.Sync("s1"))
	if !d.Down() || fork.Down() {
		t.Fatalf("down %v, its fork %v", d.Down(), fork.Down())
	}
	off := d.Fork()
	if !off.Down() {
		t.Fatal("the fork of a disk without power has some")
	}
	ok(t, off.Crash(nil))
	if off.Down() || !d.Down() {
		t.Fatalf("behind a crash of the fork: down %v, its fork %v", d.Down(), off.Down())
	}
	ok(t, fork.Sync("t1"))
	if !fork.Down() || d.Safe("t1") != 2 {
		t.Fatalf("the fork is down %v; %d are safe", fork.Down(), d.Safe("t1"))
	}
}
