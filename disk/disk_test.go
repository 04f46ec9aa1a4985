package disk

import (
	"bytes"
	"math"
	"slices"
	"strings"
	"testing"

	"portage/api"
)

// P10.1

func TestNew(t *testing.T) {
	for _, limit := range []int{1, 2, 255, 256, 65535, 65536, 65537, mostLimit - 1, mostLimit} {
		checkView(t, made(t, limit), view{limit: limit, armed: -1})
	}
}

func TestNewRefuses(t *testing.T) {
	for _, limit := range outside(1, mostLimit) {
		if d, e := New(limit); d != nil || e != api.ErrRange {
			t.Errorf("New(%d): %v %d", limit, d, e)
		}
	}
}

// outside answers numbers that are not from least to most.
func outside(least, most int) []int {
	return []int{least - 1, least - 2, -1, -2, -256, most + 1, most + 2, most + 1<<20, 1<<31 - 1, 1 << 31, 1<<32 + 1, math.MinInt, math.MinInt + 1, math.MaxInt - 1, math.MaxInt}
}

func TestANilDisk(t *testing.T) {
	var d *Disk
	for _, name := range []string{"a", "none", "", "A", strings.Repeat("a", mostName+1)} {
		for _, c := range ofName(t, name) {
			if e := c.do(d); e != api.ErrState {
				t.Errorf("%q: %d", c.text, e)
			}
		}
		if d.Safe(name) != 0 {
			t.Errorf("Safe(%q): %d", name, d.Safe(name))
		}
	}
	for _, n := range append(outside(0, mostLimit), 0, 1, mostLimit) {
		if e := d.Limit(n); e != api.ErrState {
			t.Errorf("Limit(%d): %d", n, e)
		}
		if e := d.Arm(n); e != api.ErrState {
			t.Errorf("Arm(%d): %d", n, e)
		}
		for _, keep := range [][]int{nil, {}, {n}, {n, n}} {
			if e := d.Crash(keep); e != api.ErrState {
				t.Errorf("Crash(%d): %d", keep, e)
			}
		}
	}
	if d.Used() != 0 || len(d.Names()) != 0 || d.Down() || d.Fork() != nil {
		t.Errorf("used %d, names %q, down %v, fork %v", d.Used(), d.Names(), d.Down(), d.Fork())
	}
}

func TestLimit(t *testing.T) {
	for _, n := range []int{0, 1, 4, 5, 6, 255, 256, 65536, mostLimit - 1, mostLimit} {
		for _, d := range []*Disk{laid(t, 5, stands{"a", "xyz", 1}, stands{"b", "uv", 2}), powerless(t, 5, stands{"a", "xyz", 1}, stands{"b", "uv", 2})} {
			want := look(t, d)
			want.limit = n
			ok(t, d.Limit(n))
			checkView(t, d, want) // what is there stays, be it more than there is room for
		}
	}
}

func TestLimitRefuses(t *testing.T) {
	for _, d := range []*Disk{laid(t, 5, stands{"a", "xyz", 1}), powerless(t, 5, stands{"a", "xyz", 1})} {
		for _, n := range outside(0, mostLimit) {
			refuses(t, d, api.ErrRange, called{"Limit", func(d *Disk) api.Errno { return d.Limit(n) }})
		}
	}
}

func TestALimitBelowWhatIsInUse(t *testing.T) {
	for limit := range 5 {
		d := laid(t, mostLimit, stands{"a", "xyz", 1}, stands{"b", "uv", 0})
		ok(t, d.Limit(limit))
		refuses(t, d, api.ErrFull, appends("a", "w"), appends("a", ""), appends("c", "w"), appends("c", ""))
		ok(t, d.Sync("a"))
		ok(t, d.Sync("b"))
		ok(t, d.Rename("b", "c"))
		checkFiles(t, d, stands{"a", "xyz", 3}, stands{"c", "uv", 2})
		ok(t, d.Cut("a", 1))
		ok(t, d.Cut("c", 0))
		if limit == 0 { // one byte is there
			refuses(t, d, api.ErrFull, appends("a", ""), appends("b", ""))
			ok(t, d.Remove("a"))
			ok(t, d.Append("a", nil))
			refuses(t, d, api.ErrFull, appends("a", "w"), appends("b", "w"))
			continue
		}
		refuses(t, d, api.ErrFull, appends("c", text(limit)), appends("d", text(limit)))
		ok(t, d.Append("c", []byte(text(limit-1))))
		checkFiles(t, d, stands{"a", "x", 1}, stands{"c", text(limit - 1), 0})
		refuses(t, d, api.ErrFull, appends("a", "w"), appends("d", "w"))
	}
}

// P10.2: names

// goodNames answers a name of each length, and of each sign that may be.
func goodNames() []string {
	const may = "abcdefghijklmnopqrstuvwxyz0123456789."
	var out []string
	for n := 1; n <= mostName; n++ {
		out = append(out, strings.Repeat("n", n))
	}
	for i := range len(may) {
		sign := may[i : i+1]
		out = append(out, sign, strings.Repeat(sign, mostName), "a"+sign, sign+"a", "a"+sign+"a", text(mostName-1)+sign)
	}
	return append(out, may[:12], may[12:24], may[24:36], may[25:], "..", "s00001", "w99999")
}

// badNames answers names that are none: by their length, and by one byte at any place.
func badNames() []string {
	out := []string{"", strings.Repeat("a", mostName+1), strings.Repeat(".", mostName+1), strings.Repeat("a", 256+1), strings.Repeat("a", 1<<16+1), strings.Repeat("A", mostName+1),
		"ä", "name.ä", "\u0161", "\u0430", "\uff41", "\u0660", "\u012e", "\U00010061", "ééééééé"} // some have the lowest byte of a letter
	for c := range 256 {
		if c >= 'a' && c <= 'z' || c >= '0' && c <= '9' || c == '.' {
			continue
		}
		sign := string([]byte{byte(c)})
		out = append(out, sign, "a"+sign, sign+"a", "a"+sign+"a", strings.Repeat("a", mostName-1)+sign)
	}
	return out
}

func TestNames(t *testing.T) {
	for _, name := range goodNames() {
		d := made(t, 100)
		refuses(t, d, api.ErrNone, syncs(name), cuts(name, 0), removes(name), renames(name, "b"), renames("b", name), reads(t, name))
		ok(t, d.Append(name, []byte("xyz")))
		ok(t, d.Append(name, []byte("uv")))
		ok(t, d.Sync(name))
		ok(t, d.Append(name, []byte("w")))
		checkFiles(t, d, stands{name, "xyzuvw", 5})
		ok(t, d.Cut(name, 4))
		other := "q" + name[1:]
		ok(t, d.Rename(name, other))
		checkFiles(t, d, stands{other, "xyzu", 4})
		ok(t, d.Rename(other, name))
		checkFiles(t, d, stands{name, "xyzu", 4})
		ok(t, d.Remove(name))
		checkFiles(t, d)
	}
}

func TestNamesThatAreNone(t *testing.T) {
	for _, name := range badNames() {
		d := laid(t, 10, stands{"a", "xyz", 3}, stands{"b", "uv", 1})
		refuses(t, d, api.ErrForm, ofName(t, name)...)
		refuses(t, d, api.ErrForm, renames("b", name), renames(name, "b"), renames(name, ""), renames("", name))
		if d.Safe(name) != 0 {
			t.Errorf("Safe(%q): %d", name, d.Safe(name))
		}
		if t.Failed() {
			t.Fatalf("the name %q", name)
		}
	}
}

func TestAllNamesAreOthers(t *testing.T) {
	names := []string{".", "..", ".a", "0", "00", "1", "9", "9a", "a", "a.", "a.a", "a0", "aa", "aaaaaaaaaaaa", "aaaaaaaaaaab", "b", "z", "z.", "z9", "zz"}
	d := made(t, 1000)
	for i := range names {
		name := names[(i*7+3)%len(names)] // in another order
		ok(t, d.Append(name, []byte(name)))
	}
	var want []stands
	for _, name := range names {
		want = append(want, stands{name, name, 0})
	}
	checkFiles(t, d, want...)
}

// P10.2: what comes first

func TestWithoutPowerThatIsSaidFirst(t *testing.T) {
	d := powerless(t, 6, stands{"a", "xyz", 3}, stands{"b", "uvw", 1})
	for _, name := range []string{"a", "b", "none", "", "A", strings.Repeat("a", mostName+1)} {
		refuses(t, d, api.ErrDown, ofName(t, name)...)
		refuses(t, d, api.ErrDown, appends(name, text(7)), cuts(name, 4), renames("b", name), renames(name, "b"))
	}
	checkFiles(t, d, stands{"a", "xyz", 3}, stands{"b", "uvw", 1}) // what is there can still be told, but its bytes
	if d.Safe("none") != 0 || !d.Down() {
		t.Errorf("Safe %d, Down %v", d.Safe("none"), d.Down())
	}
}

func TestANameIsSaidAheadOfWhatThereIs(t *testing.T) {
	d := laid(t, 70, many(mostFiles)...)
	ok(t, d.Append("m00", []byte("tail")))
	refuses(t, d, api.ErrForm,
		appends("A", text(100)), cuts("A", -1),
		renames("none", "A"), renames("A", "none"), renames("m00", "A"), renames("A", "m00"), renames("m01", ""), renames("A", "A"))
	refuses(t, d, api.ErrNone, cuts("none", -1), cuts("none", 0), cuts("none", 1), renames("none", "m00"), renames("none", "none"), renames("none", "free"))
	refuses(t, d, api.ErrState, renames("m00", "m01"), renames("m00", "free"), renames("m00", "m00"))
}

// P10.2: Append

func TestAppend(t *testing.T) {
	d := made(t, 10)
	ok(t, d.Append("a", []byte("xyz")))
	checkFiles(t, d, stands{"a", "xyz", 0})
	ok(t, d.Sync("a"))
	ok(t, d.Append("a", []byte("uv")))
	checkFiles(t, d, stands{"a", "xyzuv", 3})
	ok(t, d.Append("a", nil))
	ok(t, d.Append("a", []byte{}))
	checkFiles(t, d, stands{"a", "xyzuv", 3})
	ok(t, d.Append("b", []byte{0, 255}))
	ok(t, d.Append("a", []byte("w")))
	checkFiles(t, d, stands{"a", "xyzuvw", 3}, stands{"b", "\x00\xff", 0})
}

func TestAppendOfNoByteMakesAFile(t *testing.T) {
	for _, p := range [][]byte{nil, {}, make([]byte, 0, 8)} {
		d := made(t, 1)
		ok(t, d.Append("b", p))
		ok(t, d.Append("a", []byte("x")))
		ok(t, d.Append("c", p)) // there is no room for any byte, but none is needed
		ok(t, d.Append("a", p))
		checkFiles(t, d, stands{"a", "x", 0}, stands{"b", "", 0}, stands{"c", "", 0})
		refuses(t, d, api.ErrFull, appends("b", "y"), appends("d", "y"))
	}
}

func TestAppendUpToTheLimit(t *testing.T) {
	for _, limit := range []int{1, 2, 3, 100, 4096, 65536, mostLimit} {
		for _, there := range []int{0, 1, limit / 2, limit - 1, limit} {
			for _, name := range []string{"a", "b", "c"} {
				d := laid(t, limit, stands{"a", text(there / 2), there / 4}, stands{"b", text(there - there/2), 0})
				room := limit - there
				refuses(t, d, api.ErrFull, appends(name, text(room+1)), appends(name, text(room+2)), appends(name, text(limit+1)))
				want := look(t, d)
				i, found := slices.BinarySearchFunc(want.files, name, func(f stands, name string) int { return strings.Compare(f.name, name) })
				if !found {
					want.files = append(want.files, stands{name, "", 0})
				}
				want.files[i].bytes += text(room)
				want.used = limit
				ok(t, d.Append(name, []byte(text(room))))
				checkView(t, d, want)
				refuses(t, d, api.ErrFull, appends("a", "x"), appends("b", "x"), appends("c", "x"))
			}
		}
	}
}

func TestAppendToAsManyFilesAsMayBe(t *testing.T) {
	files := many(mostFiles - 1)
	d := laid(t, 100, files...)
	ok(t, d.Append("n", []byte("y"))) // the last one that may be
	files = append(files, stands{"n", "y", 0})
	checkFiles(t, d, files...)
	refuses(t, d, api.ErrFull, appends("o", "y"), appends("o", ""), appends("a", "y"))
	ok(t, d.Append("n", []byte("z")))
	ok(t, d.Append("m00", []byte("z")))
	files[0].bytes, files[mostFiles-1].bytes = "xz", "yz"
	checkFiles(t, d, files...)
	ok(t, d.Sync("n"))
	ok(t, d.Rename("n", "o")) // no more files than there were
	files[mostFiles-1] = stands{"o", "yz", 2}
	checkFiles(t, d, files...)
	refuses(t, d, api.ErrFull, appends("n", ""))
	ok(t, d.Rename("o", "m62"))
	files = append(files[:62], stands{"m62", "yz", 2})
	checkFiles(t, d, files...)
	ok(t, d.Append("p", nil))
	refuses(t, d, api.ErrFull, appends("q", ""))
	ok(t, d.Remove("m30"))
	ok(t, d.Append("q", nil))
	refuses(t, d, api.ErrFull, appends("m30", ""))
}

// P10.2: Sync, Cut, Rename, Remove, Read

func TestSync(t *testing.T) {
	d := laid(t, 20, stands{"a", "xyz", 1}, stands{"b", "uv", 0}, stands{"c", "w", 1}, stands{"d", "", 0})
	ok(t, d.Sync("a"))
	checkFiles(t, d, stands{"a", "xyz", 3}, stands{"b", "uv", 0}, stands{"c", "w", 1}, stands{"d", "", 0})
	for _, name := range []string{"a", "c", "d", "a"} { // no tail
		ok(t, d.Sync(name))
	}
	checkFiles(t, d, stands{"a", "xyz", 3}, stands{"b", "uv", 0}, stands{"c", "w", 1}, stands{"d", "", 0})
	refuses(t, d, api.ErrNone, syncs("e"), syncs("aa"), syncs("."))
	ok(t, d.Append("a", []byte("!")))
	ok(t, d.Sync("b"))
	checkFiles(t, d, stands{"a", "xyz!", 3}, stands{"b", "uv", 2}, stands{"c", "w", 1}, stands{"d", "", 0})
}

func TestCut(t *testing.T) {
	for safe := range 7 {
		for n := range 7 {
			d := laid(t, 20, stands{"a", "uvwxyz", safe}, stands{"b", "other", 2})
			refuses(t, d, api.ErrRange, cuts("a", -1), cuts("a", 7), cuts("b", 6), cuts("a", math.MinInt), cuts("a", math.MaxInt), cuts("a", 1<<32))
			ok(t, d.Cut("a", n))
			left := "uvwxyz"[:n]
			checkFiles(t, d, stands{"a", left, n}, stands{"b", "other", 2})
			refuses(t, d, api.ErrRange, cuts("a", n+1), cuts("a", -1))
			ok(t, d.Cut("a", n))
			ok(t, d.Append("a", []byte("!?"))) // behind what is left, and nothing of what was cut comes again
			checkFiles(t, d, stands{"a", left + "!?", n}, stands{"b", "other", 2})
			ok(t, d.Crash([]int{1, 0}))
			checkFiles(t, d, stands{"a", left + "!", n + 1}, stands{"b", "ot", 2})
		}
	}
	d := laid(t, 20, stands{"a", "", 0})
	ok(t, d.Cut("a", 0))
	refuses(t, d, api.ErrRange, cuts("a", 1), cuts("a", -1))
	refuses(t, d, api.ErrNone, cuts("b", 0), cuts("b", 1), cuts("b", -1))
	checkFiles(t, d, stands{"a", "", 0})
}

func TestRename(t *testing.T) {
	files := []stands{{"b", "xyz", 3}, {"d", "uv", 1}, {"e", "", 0}}
	d := laid(t, 20, files...)
	refuses(t, d, api.ErrState, renames("d", "a"), renames("d", "b"), renames("d", "e"), renames("d", "d"))
	refuses(t, d, api.ErrNone, renames("a", "b"), renames("a", "d"), renames("a", "c"), renames("a", "a"))

	ok(t, d.Rename("b", "b"))
	checkFiles(t, d, files...)
	ok(t, d.Rename("b", "f"))
	checkFiles(t, d, stands{"d", "uv", 1}, stands{"e", "", 0}, stands{"f", "xyz", 3})
	refuses(t, d, api.ErrNone, renames("b", "c"), syncs("b"), removes("b"), cuts("b", 0), reads(t, "b"))
	ok(t, d.Rename("f", "d")) // in the place of one that has a tail
	checkFiles(t, d, stands{"d", "xyz", 3}, stands{"e", "", 0})
	ok(t, d.Append("d", []byte("uv")))
	checkFiles(t, d, stands{"d", "xyzuv", 3}, stands{"e", "", 0})
	ok(t, d.Append("f", []byte("new"))) // a name that was given up is free
	checkFiles(t, d, stands{"d", "xyzuv", 3}, stands{"e", "", 0}, stands{"f", "new", 0})
	ok(t, d.Rename("e", "d")) // one of no byte, in the place of one that has some
	checkFiles(t, d, stands{"d", "", 0}, stands{"f", "new", 0})
	ok(t, d.Sync("f"))
	ok(t, d.Rename("f", "a"))
	ok(t, d.Rename("d", "a"))
	checkFiles(t, d, stands{"a", "", 0})
	ok(t, d.Append("a", []byte(text(20)))) // there is room for what is gone
}

func TestRemove(t *testing.T) {
	d := laid(t, 8, stands{"a", "xyz", 3}, stands{"b", "uv", 1}, stands{"c", "", 0})
	refuses(t, d, api.ErrNone, removes("d"), removes("aa"))
	ok(t, d.Remove("b"))
	checkFiles(t, d, stands{"a", "xyz", 3}, stands{"c", "", 0})
	refuses(t, d, api.ErrNone, removes("b"), syncs("b"), cuts("b", 0), renames("b", "d"), renames("b", "a"), reads(t, "b"))
	if d.Safe("b") != 0 {
		t.Errorf("Safe(b): %d", d.Safe("b"))
	}
	ok(t, d.Append("b", []byte("12345")))
	checkFiles(t, d, stands{"a", "xyz", 3}, stands{"b", "12345", 0}, stands{"c", "", 0}) // anew: nothing of it is safe
	ok(t, d.Remove("c"))
	ok(t, d.Remove("a"))
	ok(t, d.Remove("b"))
	checkFiles(t, d)
	ok(t, d.Crash([]int{9, 9, 9}))
	checkFiles(t, d) // what was removed does not come again
	refuses(t, d, api.ErrNone, removes("a"), removes("b"), removes("c"))
	ok(t, d.Append("a", []byte("12345678")))
}

func TestRead(t *testing.T) {
	all := make([]byte, 256)
	for i := range all {
		all[i] = byte(i)
	}
	d := laid(t, mostLimit, stands{"a", string(all), 100}, stands{"b", "", 0}, stands{"c", text(1000), 0})
	sameBytes(t, d, "a", string(all))
	sameBytes(t, d, "b", "")
	sameBytes(t, d, "c", text(1000))
	refuses(t, d, api.ErrNone, reads(t, "d"), reads(t, "."), reads(t, "aa"))
	refuses(t, d, api.ErrForm, reads(t, ""), reads(t, "A"))
}

// P10.3

func TestSafeNamesUsed(t *testing.T) {
	d := made(t, 30)
	is := func(used int, names []string, safe ...int) {
		t.Helper()
		if d.Used() != used || !slices.Equal(d.Names(), names) {
			t.Fatalf("used %d, names %q; not %d, %q", d.Used(), d.Names(), used, names)
		}
		for i, name := range names {
			if d.Safe(name) != safe[i] {
				t.Fatalf("Safe(%q): %d; not %d", name, d.Safe(name), safe[i])
			}
		}
	}
	is(0, nil)
	ok(t, d.Append("n", []byte("12345")))
	is(5, []string{"n"}, 0)
	ok(t, d.Append("a", []byte("123")))
	is(8, []string{"a", "n"}, 0, 0)
	ok(t, d.Sync("n"))
	is(8, []string{"a", "n"}, 0, 5)
	ok(t, d.Append("n", []byte("67")))
	is(10, []string{"a", "n"}, 0, 5)
	ok(t, d.Cut("n", 6))
	is(9, []string{"a", "n"}, 0, 6)
	ok(t, d.Cut("n", 2))
	is(5, []string{"a", "n"}, 0, 2)
	ok(t, d.Append("z", nil))
	is(5, []string{"a", "n", "z"}, 0, 2, 0)
	ok(t, d.Rename("n", "0"))
	is(5, []string{"0", "a", "z"}, 2, 0, 0)
	ok(t, d.Sync("a"))
	ok(t, d.Rename("a", "0"))
	is(3, []string{"0", "z"}, 3, 0)
	ok(t, d.Append("z", []byte("12")))
	ok(t, d.Crash([]int{0, 1}))
	is(4, []string{"0", "z"}, 3, 1)
	ok(t, d.Remove("0"))
	is(1, []string{"z"}, 1)
	for _, name := range []string{"0", "a", "n", "", "Z", "zz", strings.Repeat("z", mostName+1)} {
		if d.Safe(name) != 0 {
			t.Errorf("Safe(%q): %d", name, d.Safe(name))
		}
	}
}

// P10.2, P10.4: the chapter's example

func TestTheExample(t *testing.T) {
	d := made(t, 100)
	ok(t, d.Append("a", []byte("xyz")))
	ok(t, d.Sync("a"))
	ok(t, d.Append("a", []byte("uv")))
	ok(t, d.Crash([]int{1}))
	sameBytes(t, d, "a", "xyzu")
	ok(t, d.Append("b", []byte("x")))
	answers(t, d.Rename("b", "a"), api.ErrState)
	ok(t, d.Sync("b"))
	ok(t, d.Rename("b", "a"))
	checkFiles(t, d, stands{"a", "x", 1})
}

// What is handed in is neither changed nor kept, nor what lies in the room behind it; what is answered is new memory.

func TestHandedInStaysAsItIs(t *testing.T) {
	room := []byte("payload and room behind it")
	was := bytes.Clone(room)
	d := made(t, 100)
	ok(t, d.Append("a", room[:7]))
	ok(t, d.Append("a", room[:3]))
	ok(t, d.Append("b", room[:7]))
	ok(t, d.Append("b", room[8:11]))
	ok(t, d.Cut("a", 2))
	ok(t, d.Append("a", []byte("other bytes")))
	numbers := []int{1, -1, 99, 5, 6}
	ok(t, d.Crash(numbers[:2]))
	ok(t, d.Append("a", []byte("other bytes")))
	if !bytes.Equal(room, was) || !slices.Equal(numbers, []int{1, -1, 99, 5, 6}) {
		t.Errorf("%q %d", room, numbers)
	}
}

func TestHandedInIsNotKept(t *testing.T) {
	d := made(t, 100)
	first := append(make([]byte, 0, 50), "first"...)
	second := append(make([]byte, 0, 50), "second"...)
	ok(t, d.Append("a", first))
	scribble(first)
	checkFiles(t, d, stands{"a", "first", 0})
	ok(t, d.Append("a", second))
	scribble(second)
	scribble(first)
	checkFiles(t, d, stands{"a", "firstsecond", 0})
}

func TestAnswersAreNewMemory(t *testing.T) {
	d := laid(t, 100, stands{"a", "xyzuv", 3}, stands{"b", "pq", 1}, stands{"c", "w", 1})
	was := look(t, d)
	one, _ := d.Read("a")
	two, _ := d.Read("a")
	scribble(one)
	if string(two) != "xyzuv" {
		t.Errorf("two answers share: %q", two)
	}
	_ = append(two, "more"...)
	scribble(two)
	names := d.Names()
	clear(names[:cap(names)])
	checkView(t, d, was)

	read, _ := d.Read("a")
	names = d.Names()
	ok(t, d.Append("a", []byte("more")))
	ok(t, d.Cut("a", 0))
	ok(t, d.Append("a", []byte("other")))
	ok(t, d.Remove("b"))
	if string(read) != "xyzuv" || !slices.Equal(names, []string{"a", "b", "c"}) {
		t.Errorf("%q %q", read, names)
	}
}

// What is answered by a fork is new memory, too; and two disks share nothing.

func TestDisksShareNothing(t *testing.T) {
	a, b := made(t, 10), made(t, 20)
	ok(t, a.Append("n", []byte("xyz")))
	checkFiles(t, b)
	ok(t, b.Append("n", []byte("uv")))
	ok(t, a.Sync("n"))
	ok(t, a.Arm(0))
	checkView(t, b, view{files: []stands{{"n", "uv", 0}}, used: 2, limit: 20, armed: -1})
	checkView(t, a, view{files: []stands{{"n", "xyz", 3}}, used: 3, limit: 10, down: true})
}
