package wal

import (
	"bytes"
	"fmt"
	"math"
	"slices"
	"testing"

	"portage/api"
)

// P12.1: Name

func TestName(t *testing.T) {
	for k, want := range map[int]string{
		1: "w00001", 2: "w00002", 9: "w00009", 10: "w00010", 11: "w00011", 99: "w00099", 100: "w00100",
		12345: "w12345", 54321: "w54321", 90909: "w90909", 99998: "w99998", 99999: "w99999",
		0: "", -1: "", -9: "", -12345: "", -99999: "", 100000: "", 100001: "", 1<<32 + 1: "", math.MinInt: "", math.MaxInt: "",
	} {
		if got := Name(k); got != want {
			t.Errorf("Name(%d): %q; not %q", k, got, want)
		}
	}
}

func TestEachName(t *testing.T) {
	for k := 1; k <= lastSegment; k++ {
		if got, want := Name(k), fmt.Sprintf("w%05d", k); got != want {
			t.Fatalf("Name(%d): %q; not %q", k, got, want)
		}
	}
}

// P12.1: Open

func TestOpenRefuses(t *testing.T) {
	files := []stands{safely("w00001", row("a")+"x"), safely("w00003", row("b"))}
	there, gone := laid(t, files...), powerless(t, files...)
	wasThere, wasGone := look(t, there), look(t, gone)
	numbers := append(outside(1, lastSegment), 100000, 1, lastSegment)
	sizes := append(outside(16, mostSize), 0, 1, 15, mostSize+1, 16, mostSize)
	for _, first := range numbers {
		for _, size := range sizes {
			opensNot(t, nil, first, size, api.ErrState)
			if first >= 1 && first <= lastSegment && size >= 16 && size <= mostSize {
				opensNot(t, gone, first, size, api.ErrDown)
				continue
			}
			opensNot(t, there, first, size, api.ErrRange)
			opensNot(t, gone, first, size, api.ErrRange)
		}
	}
	checkView(t, there, wasThere)
	checkView(t, gone, wasGone)
}

func TestOpenOfNoFiles(t *testing.T) {
	for _, first := range []int{1, 2, 10, 99998, lastSegment} {
		for _, size := range []int{16, 17, mostSize - 1, mostSize} {
			d := made(t)
			checkLog(t, opened(t, d, first, size), first, first, 0)
			checkFiles(t, d)
		}
	}
}

func TestOpenTellsSegmentsInOrder(t *testing.T) {
	files := []stands{
		{"w00009", row("a", "bc"), 4}, safely("w00010", row(text(100))), safely("w00011", ""), {"w00012", row("d"), 0},
	}
	for _, size := range []int{16, 20, 108, mostSize} { // of the size that the log is to have nothing hangs
		d := laid(t, files...)
		l := opened(t, d, 9, size, "a", "bc", text(100), "d")
		checkLog(t, l, 9, 12, 9+10+108+9)
		checkFiles(t, d, files...) // nothing was changed, nor made safe
	}
}

func TestOpenTellsTheLastSegment(t *testing.T) {
	d := laid(t, safely("w99998", row("a")), safely("w99999", row("b")))
	checkLog(t, opened(t, d, 99998, 16, "a", "b"), 99998, 99999, 18)
	d = laid(t, safely("w99998", row("a")), stands{"w99999", row("b") + "x", 2})
	checkLog(t, opened(t, d, 99999, 16, "b"), 99999, 99999, 9)
	checkFiles(t, d, safely("w99999", row("b")))
}

func TestOpenRemovesWhatIsBelow(t *testing.T) {
	strange := safely("a", "x")
	below := []stands{safely("w00001", row("a")), {"w00002", "no record", 3}, safely("w00008", ""), {"w00009", row("z"), 0}}
	files := append([]stands{strange}, below...)
	files = append(files, safely("w00010", row("b")), safely("w00011", row("c")))
	d := laid(t, files...)
	checkLog(t, opened(t, d, 10, 16, "b", "c"), 10, 11, 18)
	checkFiles(t, d, strange, safely("w00010", row("b")), safely("w00011", row("c")))

	d = laid(t, files...) // first above all files
	checkLog(t, opened(t, d, 12, 16), 12, 12, 0)
	checkFiles(t, d, strange)

	d = laid(t, files...)
	checkLog(t, opened(t, d, lastSegment, 16), lastSegment, lastSegment, 0)
	checkFiles(t, d, strange)
}

func TestOpenRemovesWhatIsAboveAMissingFile(t *testing.T) {
	files := []stands{{"w00001", row("a"), 3}, {"w00002", row("b"), 9}, safely("w00004", row("c")), {"w00005", "no record", 0}, safely("w99999", row("d"))}
	d := laid(t, files...)
	checkLog(t, opened(t, d, 1, 16, "a", "b"), 1, 2, 18)
	checkFiles(t, d, files[:2]...)

	d = laid(t, files...) // the first one is missing
	checkLog(t, opened(t, d, 3, 16), 3, 3, 0)
	checkFiles(t, d)
}

func TestOpenGoesOnBehindAnEmptyFile(t *testing.T) {
	files := []stands{safely("w00001", ""), safely("w00002", row("a")), safely("w00003", ""), safely("w00004", row("b")), safely("w00005", "")}
	d := laid(t, files...)
	checkLog(t, opened(t, d, 1, 16, "a", "b"), 1, 5, 18)
	checkFiles(t, d, files...)
}

func TestOpenCutsAtEachPlace(t *testing.T) {
	payloads := []string{"a", "bcd", "efghijklmnop"}
	whole := row(payloads...)
	for at := range len(whole) + 1 {
		n := 0
		for n < len(payloads) && len(row(payloads[:n+1]...)) <= at {
			n++
		}
		left, want := row(payloads[:n]...), append([]string{"z"}, payloads[:n]...)
		for _, safe := range []int{0, len(left), at} {
			cut := stands{"w00002", whole[:at], safe}
			d := laid(t, safely("w00001", row("z")), cut, safely("w00003", row("y")), stands{"w00005", row("x"), 1})
			if at == len(left) { // all of its bytes are records
				checkLog(t, opened(t, d, 1, 16, append(want, "y")...), 1, 3, 18+at)
				checkFiles(t, d, safely("w00001", row("z")), cut, safely("w00003", row("y")))
				continue
			}
			checkLog(t, opened(t, d, 1, 16, want...), 1, 2, 9+len(left))
			checkFiles(t, d, safely("w00001", row("z")), safely("w00002", left))
		}
	}
}

func TestOpenOfATurnedByte(t *testing.T) {
	payloads := []string{"a", "bcd", "ef"}
	whole := row(payloads...)
	for at := range whole {
		n := 0
		for len(row(payloads[:n+1]...)) <= at {
			n++
		}
		turned := []byte(whole)
		turned[at] ^= 0x10
		d := laid(t, safely("w00001", string(turned)), safely("w00002", row("y")))
		checkLog(t, opened(t, d, 1, 16, payloads[:n]...), 1, 1, len(row(payloads[:n]...)))
		checkFiles(t, d, safely("w00001", row(payloads[:n]...)))
	}
}

func TestOpenOfStrangeBytes(t *testing.T) {
	for _, strange := range []string{"x", "\x00", text(7), text(8), text(40), string(make([]byte, 8)), string(make([]byte, 100))} {
		for _, payloads := range [][]string{nil, {"a"}, {"a", "bc"}} {
			d := laid(t, safely("w00001", row("z")), stands{"w00002", row(payloads...) + strange + row("d"), 3}, safely("w00003", row("e")))
			l := opened(t, d, 1, 16, append([]string{"z"}, payloads...)...)
			checkLog(t, l, 1, 2, 9+len(row(payloads...)))
			checkFiles(t, d, safely("w00001", row("z")), safely("w00002", row(payloads...)))
		}
	}
}

func TestOpenLeavesOtherFiles(t *testing.T) {
	var files []stands
	for _, name := range []string{
		".", "a", "s00001", "t", "0", "00001", "0w0001", "w", "w.", "w.0001", "w0000", "w0000.", "w00000", "w0000a", "w000000", "w000001", "w00001.", "w000010",
		"w0001", "w1", "w12345678901", "w2", "w99999.", "w999999", "wa", "wab", "ww0001", "wwwwww", "x00001", "w9999",
	} {
		files = append(files, stands{name, row("no"), 5})
	}
	slices.SortFunc(files, func(a, b stands) int { return bytes.Compare([]byte(a.name), []byte(b.name)) })
	for _, first := range []int{1, 5, lastSegment} {
		d := laid(t, files...)
		checkLog(t, opened(t, d, first, 16), first, first, 0)
		checkFiles(t, d, files...)
	}
	d := laid(t, append([]stands{safely("w00002", row("a")), safely("w00003", row("b")), safely("w00007", row("c"))}, files...)...)
	l := opened(t, d, 3, 16, "b")
	checkLog(t, l, 3, 3, 9)
	ok(t, d.Remove("w00003"))
	checkFiles(t, d, files...)
}

func TestOpenOfLongSegments(t *testing.T) {
	long := text(mostPayload)
	d := laid(t, safely("w00001", row(long, "a", long)), stands{"w00002", row(long, long[:1000], long)[:100000], 50})
	checkLog(t, opened(t, d, 1, 16, long, "a", long, long, long[:1000]), 1, 2, 2*(mostPayload+8)+9+mostPayload+8+1008)
}

// P12.1: the disk's errors

// full are files of which Open takes some away, cuts one, and takes others away.
func full() []stands {
	return []stands{
		safely("w00001", row("a")), safely("w00002", row("b")), {"w00003", row("c"), 2},
		safely("w00004", row("d")), {"w00005", row("e") + "xyz", 10},
		safely("w00006", row("f")), safely("w00008", row("g")), {"w00009", row("h"), 3},
	}
}

// opening are the disks that Open of full, from 3 on, makes by one change after another.
func opening() [][]stands {
	f := full()
	five := safely("w00005", row("e"))
	return [][]stands{
		f, f[1:], f[2:],
		{f[2], f[3], five, f[5], f[6], f[7]},
		{f[2], f[3], five, f[5], f[6]},
		{f[2], f[3], five, f[5]},
		{f[2], f[3], five},
	}
}

func TestOpenEndsWhereThePowerGoes(t *testing.T) {
	steps := opening()
	for n := 1; n < len(steps)-1; n++ {
		d := laid(t, full()...)
		ok(t, d.Arm(n))
		opensNot(t, d, 3, 16, api.ErrDown)
		checkView(t, d, view{files: steps[n], down: true})
	}
	d := laid(t, full()...)
	ok(t, d.Arm(len(steps)-1)) // behind the last change: nothing more is asked of the disk
	checkLog(t, opened(t, d, 3, 16, "c", "d", "e"), 3, 5, 0)
	checkView(t, d, view{files: steps[len(steps)-1], down: true})
	d = laid(t, full()...)
	ok(t, d.Arm(len(steps)))
	checkLog(t, opened(t, d, 3, 16, "c", "d", "e"), 3, 5, 27)
	checkView(t, d, view{files: steps[len(steps)-1], armed: 1})
}

func TestOpenEndsAheadOfTheFirstSegment(t *testing.T) {
	f := []stands{safely("w00001", row("a")), safely("w00002", row("b")), safely("w00003", row("c"))}
	for n := 1; n < 3; n++ { // the power goes with what is below: nothing can be read any more
		d := laid(t, f...)
		ok(t, d.Arm(n))
		opensNot(t, d, n+1, 16, api.ErrDown)
		checkView(t, d, view{files: f[n:], down: true})
	}
	d := laid(t, f...)
	ok(t, d.Arm(3)) // but here nothing is to be read
	checkLog(t, opened(t, d, 4, 16), 4, 4, 0)
	checkView(t, d, view{down: true})
}

func TestOpenEndsBehindACut(t *testing.T) {
	for _, above := range [][]stands{nil, {safely("w00003", row("c"))}} {
		d := laid(t, append([]stands{safely("w00001", row("a")), safely("w00002", row("b")+"x")}, above...)...)
		ok(t, d.Arm(1))
		if above == nil {
			opened(t, d, 1, 16, "a", "b")
		} else {
			opensNot(t, d, 1, 16, api.ErrDown)
		}
		checkView(t, d, view{files: append([]stands{safely("w00001", row("a")), safely("w00002", row("b"))}, above...), down: true})
	}
}

func TestOpenEndsAboveAMissingFile(t *testing.T) {
	f := []stands{safely("w00001", row("a")), safely("w00003", row("b")), safely("w00004", row("c")), safely("w00007", row("d"))}
	for n := 1; n < 3; n++ {
		d := laid(t, f...)
		ok(t, d.Arm(n))
		opensNot(t, d, 1, 16, api.ErrDown)
		checkView(t, d, view{files: f[:4-n], down: true})
	}
	d := laid(t, f...)
	ok(t, d.Arm(3))
	checkLog(t, opened(t, d, 1, 16, "a"), 1, 1, 0)
}

// P12.5

func TestOpenBehindOpen(t *testing.T) {
	for n, want := range [][]string{
		{"c", "d", "e"}, {"c", "d", "e"}, {"c", "d", "e"},
		{"c", "d", "e", "f"}, {"c", "d", "e", "f"}, {"c", "d", "e", "f"}, // cut already, so those above are records of the log
		{"c", "d", "e"},
	} {
		d := laid(t, full()...)
		if n > 0 { // behind one in which the power went
			ok(t, d.Arm(n))
			Open(d, 3, 16)
			ok(t, d.Crash(slices.Repeat([]int{100}, mostFiles)))
		}
		opened(t, d, 3, 16, want...)
		was := look(t, d)
		for range 3 {
			opened(t, d, 3, 16, want...)
			checkView(t, d, was)
		}
	}
}

// What is answered

func TestOpenAnswersNewMemory(t *testing.T) {
	d := laid(t, safely("w00001", row("abc", "def")), safely("w00002", row("ghi")))
	was := look(t, d)
	want := []string{"abc", "def", "ghi"}
	for i := range want {
		l, payloads, e := Open(d, 1, 16)
		_, others, _ := Open(d, 1, 16)
		ok(t, e)
		scribble(payloads[i])
		for j, p := range payloads {
			if j != i && string(p) != want[j] {
				t.Errorf("payload %d was turned with %d", j, i)
			}
		}
		if !slices.Equal(texts(others), want) {
			t.Errorf("another answer was turned: %q", others)
		}
		clear(payloads)
		checkView(t, d, was)
		checkLog(t, l, 1, 2, len(row(want...)))
		opened(t, d, 1, 16, want...)
	}
}

func TestOpenOfOneDiskTwice(t *testing.T) {
	d := made(t)
	a := opened(t, d, 1, 16)
	b := opened(t, d, 1, mostSize)
	appends(t, a, "a")
	appends(t, b, "b", "c") // a log asks its disk what is there
	checkLog(t, a, 1, 1, 27)
	checkLog(t, b, 1, 1, 27)
	appends(t, a, "d")
	checkLog(t, a, 1, 2, 36)
	checkLog(t, b, 1, 1, 27)
	opened(t, d.Fork(), 1, 16, "a", "b", "c", "d")
}

func TestAForkGoesItsOwnWay(t *testing.T) {
	d := laid(t, safely("w00001", row("a")))
	l := opened(t, d, 1, 16, "a")
	fork := d.Fork()
	appends(t, l, "b")
	checkFiles(t, fork, safely("w00001", row("a")))
	opened(t, fork, 1, 16, "a")
	opened(t, d, 1, 16, "a", "b")
}
