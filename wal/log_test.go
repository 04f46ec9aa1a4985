package wal

import (
	"math"
	"strconv"
	"testing"

	"portage/api"
)

// P12.2: Append

func TestExample(t *testing.T) {
	d := made(t)
	l := opened(t, d, 1, 20)
	appends(t, l, "a", "b")
	checkLog(t, l, 1, 1, 18)
	checkFiles(t, d, stands{"w00001", row("a", "b"), 0})
	appends(t, l, "c")
	checkLog(t, l, 1, 2, 27)
	checkFiles(t, d, safely("w00001", row("a", "b")), stands{"w00002", row("c"), 0})
	ok(t, d.Crash(nil))
	opened(t, d, 1, 20, "a", "b")
}

func TestAppendUpToSize(t *testing.T) {
	for _, size := range []int{18, 19, 100, 1000, 65536} {
		for ahead := 1; ahead < size-2*head+3; ahead += 1 + ahead/3 {
			d := made(t)
			l := opened(t, d, 7, size)
			appends(t, l, text(ahead))
			left := size - 2*head - ahead
			if left < 1 {
				continue
			}
			appends(t, l, text(left)) // just size bytes
			checkLog(t, l, 7, 7, size)
			checkFiles(t, d, stands{"w00007", row(text(ahead), text(left)), 0})

			d = made(t)
			l = opened(t, d, 7, size)
			appends(t, l, text(ahead), text(left+1)) // one more
			checkLog(t, l, 7, 8, size+1)
			checkFiles(t, d, safely("w00007", row(text(ahead))), stands{"w00008", row(text(left + 1)), 0})
		}
	}
}

func TestAppendOfARecordLongerThanSize(t *testing.T) {
	for _, n := range []int{9, 10, 100, 65535, mostPayload} { // into an empty segment
		d := made(t)
		l := opened(t, d, 1, 16)
		appends(t, l, text(n))
		checkLog(t, l, 1, 1, n+head)
		appends(t, l, text(n)) // and into a used one
		checkLog(t, l, 1, 2, 2*(n+head))
		appends(t, l, "a")
		checkLog(t, l, 1, 3, 2*(n+head)+9)
		checkFiles(t, d, safely("w00001", row(text(n))), safely("w00002", row(text(n))), stands{"w00003", row("a"), 0})
		opened(t, d, 1, 16, text(n), text(n), "a")
	}
}

func TestAppendIntoAnEmptyFile(t *testing.T) {
	d := laid(t, safely("w00001", row("a")), safely("w00002", ""))
	l := opened(t, d, 1, 16, "a")
	appends(t, l, text(50))
	checkLog(t, l, 1, 2, 9+58)
	checkFiles(t, d, safely("w00001", row("a")), stands{"w00002", row(text(50)), 0})
}

func TestAppendBehindACut(t *testing.T) {
	d := laid(t, stands{"w00001", row("a") + "xyz", 12})
	l := opened(t, d, 1, 18, "a")
	appends(t, l, "b")
	checkFiles(t, d, stands{"w00001", row("a", "b"), 9})
}

func TestAppendRefusesPayloads(t *testing.T) {
	for _, ahead := range [][]string{nil, {"a"}, {"a", "b", "c"}} {
		d := made(t)
		l := opened(t, d, 1, 20)
		appends(t, l, ahead...)
		refuses(t, l, d, api.ErrForm, appending(""), called{"nil", func(l *Log) api.Errno { return l.Append(nil) }})
		refuses(t, l, d, api.ErrLong, appending(text(mostPayload+1)), appending(text(mostPayload+2)), appending(text(2*mostPayload)))
		ok(t, d.Arm(0)) // the payload's error comes ahead of the disk's
		refuses(t, l, d, api.ErrForm, appending(""))
		refuses(t, l, d, api.ErrLong, appending(text(mostPayload+1)))
		refuses(t, l, d, api.ErrDown, appending("a"))
		failed(t, l, d)
	}
}

func TestAppendWithoutRoom(t *testing.T) {
	d := laid(t, safely("a", text(10)))
	l := opened(t, d, 1, 20)
	ok(t, d.Limit(18))
	refuses(t, l, d, api.ErrFull, appending("b")) // into a file that there is not
	ok(t, d.Limit(19))
	appends(t, l, "b")
	ok(t, d.Limit(27))
	refuses(t, l, d, api.ErrFull, appending("c"), appending("d"))
	ok(t, d.Limit(28))
	appends(t, l, "c")
	checkFiles(t, d, safely("a", text(10)), stands{"w00001", row("b", "c"), 0})
	ok(t, l.Sync())
	opened(t, d, 1, 20, "b", "c")
}

// The segment that an Append began stays begun, where the disk then has no room.
func TestAppendWithoutRoomBehindBegin(t *testing.T) {
	d := made(t)
	l := opened(t, d, 1, 20)
	appends(t, l, "a", "b")
	ok(t, d.Limit(26))
	answers(t, l.Append([]byte("c")), api.ErrFull)
	checkLog(t, l, 1, 2, 18)
	checkFiles(t, d, safely("w00001", row("a", "b")))
	refuses(t, l, d, api.ErrFull, appending("c"))
	ok(t, d.Limit(27))
	appends(t, l, "c")
	checkLog(t, l, 1, 2, 27)
	checkFiles(t, d, safely("w00001", row("a", "b")), stands{"w00002", row("c"), 0})
}

func TestAppendWhereAllFilesAreThere(t *testing.T) {
	var files []stands
	for i := range mostFiles - 1 {
		files = append(files, safely("a"+strconv.Itoa(100+i), ""))
	}
	d := laid(t, append(files, safely("a999", ""))...)
	l := opened(t, d, 1, 20)
	refuses(t, l, d, api.ErrFull, appending("a"), appending(text(100)))

	d = laid(t, files...)
	l = opened(t, d, 1, 20)
	appends(t, l, "a", "b")
	answers(t, l.Append([]byte("c")), api.ErrFull)
	checkLog(t, l, 1, 2, 18)
	checkFiles(t, d, append(files, safely("w00001", row("a", "b")))...)
	ok(t, d.Remove("a100"))
	appends(t, l, "c")
	checkFiles(t, d, append(files[1:], safely("w00001", row("a", "b")), stands{"w00002", row("c"), 0})...)
}

func TestAppendAtTheLastNumber(t *testing.T) {
	d := made(t)
	l := opened(t, d, lastSegment-1, 20)
	appends(t, l, "a", "b", "c")
	checkLog(t, l, lastSegment-1, lastSegment, 27)
	appends(t, l, "d") // there is room in it
	answers(t, l.Append([]byte("e")), api.ErrRange)
	checkFiles(t, d, safely("w99998", row("a", "b")), safely("w99999", row("c", "d")))
	refuses(t, l, d, api.ErrRange, appending("e"), appending(text(100)), beginning(t))
	checkLog(t, l, lastSegment-1, lastSegment, 36)
	opened(t, d, lastSegment-1, 20, "a", "b", "c", "d")

	d = made(t) // the room in an empty one is not asked for
	l = opened(t, d, lastSegment, 20)
	appends(t, l, text(100))
	answers(t, l.Append([]byte("e")), api.ErrRange)
	checkFiles(t, d, safely("w99999", row(text(100))))
}

func TestAppendNeitherChangesNorKeeps(t *testing.T) {
	const digits = "0123456789"
	for from := range len(digits) {
		for to := from + 1; to <= len(digits); to++ {
			d := made(t)
			l := opened(t, d, 1, 30)
			list := []byte(digits)
			ok(t, l.Append(list[from:to])) // what lies behind it is not its own
			if string(list) != digits {
				t.Fatalf("%q", list)
			}
			scribble(list)
			opened(t, d, 1, 30, digits[from:to])
			ok(t, l.Sync())
			opened(t, d, 1, 30, digits[from:to])
			checkFiles(t, d, safely("w00001", row(digits[from:to])))
		}
	}
}

// P12.2: Sync

func TestSync(t *testing.T) {
	d := made(t)
	l := opened(t, d, 3, 20)
	ok(t, d.Arm(30))
	refuses(t, l, d, api.OK, syncing(), syncing()) // there is no file
	appends(t, l, "a")
	ok(t, l.Sync())
	checkView(t, d, view{files: []stands{safely("w00003", row("a"))}, armed: 28})
	refuses(t, l, d, api.OK, syncing(), syncing()) // all of it is safe
	appends(t, l, "b", "c")
	ok(t, l.Sync())
	checkView(t, d, view{files: []stands{safely("w00003", row("a", "b")), safely("w00004", row("c"))}, armed: 24})
	refuses(t, l, d, api.OK, syncing(), syncing())
	begins(t, l, 5)
	refuses(t, l, d, api.OK, syncing(), syncing())
}

func TestSyncOfPartOfAFile(t *testing.T) {
	for safe := range len(row("a", "b")) + 1 {
		d := laid(t, stands{"w00001", row("a", "b"), safe})
		l := opened(t, d, 1, 20, "a", "b")
		ok(t, l.Sync())
		checkFiles(t, d, safely("w00001", row("a", "b")))
	}
}

func TestSyncOfTheLastSegmentAlone(t *testing.T) {
	d := laid(t, stands{"w00001", row("a"), 3}, stands{"w00002", row("b"), 0}, stands{"z", "z", 0})
	l := opened(t, d, 1, 20, "a", "b")
	ok(t, l.Sync())
	checkFiles(t, d, stands{"w00001", row("a"), 3}, safely("w00002", row("b")), stands{"z", "z", 0})
}

func TestSyncOfAnEmptyFile(t *testing.T) {
	d := laid(t, safely("w00001", ""))
	ok(t, d.Arm(9))
	refuses(t, opened(t, d, 1, 20), d, api.OK, syncing())
}

func TestSyncWithoutPower(t *testing.T) {
	for _, files := range [][]stands{nil, {safely("w00001", row("a"))}, {{"w00001", row("a"), 3}}, {safely("w00001", "")}} {
		for _, c := range []called{syncing(), beginning(t)} { // also where nothing is to be made safe
			d := laid(t, files...)
			l, _, e := Open(d, 1, 20)
			ok(t, e)
			ok(t, d.Arm(0))
			refuses(t, l, d, api.ErrDown, c)
			failed(t, l, d)
			ok(t, d.Crash(nil))
			failed(t, l, d)
		}
	}
}

// P12.2: Begin

func TestBegin(t *testing.T) {
	d := made(t)
	l := opened(t, d, 5, 20)
	ok(t, d.Arm(30))
	for range 2 { // the last one has no bytes
		begins(t, l, 5)
		checkLog(t, l, 5, 5, 0)
		checkView(t, d, view{armed: 30})
	}
	appends(t, l, "a")
	for range 2 {
		begins(t, l, 6)
		checkLog(t, l, 5, 6, 9)
		checkView(t, d, view{files: []stands{safely("w00005", row("a"))}, armed: 28})
	}
	appends(t, l, text(100))
	begins(t, l, 7)
	appends(t, l, "b")
	checkLog(t, l, 5, 7, 9+108+9)
	opened(t, d, 5, 20, "a", text(100), "b")
}

func TestBeginOfAnEmptyFile(t *testing.T) {
	d := laid(t, safely("w00001", row("a")), safely("w00002", ""))
	l := opened(t, d, 1, 20, "a")
	begins(t, l, 2)
	checkLog(t, l, 1, 2, 9)
	checkFiles(t, d, safely("w00001", row("a")), safely("w00002", ""))
}

func TestBeginBehindOpen(t *testing.T) {
	d := laid(t, stands{"w00001", row("a"), 0})
	l := opened(t, d, 1, 20, "a")
	begins(t, l, 2)
	checkFiles(t, d, safely("w00001", row("a")))
}

// The power goes at the change by which all was made safe: the last segment has bytes, so the next one begins.
func TestBeginAtWhoseSyncThePowerGoes(t *testing.T) {
	d := made(t)
	l := opened(t, d, 1, 20)
	appends(t, l, "a")
	ok(t, d.Arm(1))
	begins(t, l, 2)
	checkLog(t, l, 1, 2, 0)
	ok(t, d.Crash(nil))
	checkLog(t, l, 1, 2, 9)
	checkFiles(t, d, safely("w00001", row("a")))

	l = opened(t, d, 1, 20, "a")
	appends(t, l, "b")
	ok(t, d.Arm(1))
	answers(t, l.Append([]byte("c")), api.ErrDown)
	failed(t, l, d)
	ok(t, d.Crash(nil))
	opened(t, d, 1, 20, "a", "b")
}

func TestBeginAtTheLastNumber(t *testing.T) {
	d := made(t)
	l := opened(t, d, lastSegment, 20)
	begins(t, l, lastSegment)
	appends(t, l, "a")
	answers(t, beginning(t).do(l), api.ErrRange)
	checkFiles(t, d, safely("w99999", row("a"))) // it is safe now
	refuses(t, l, d, api.ErrRange, beginning(t))
	appends(t, l, "b")
	checkLog(t, l, lastSegment, lastSegment, 18)
}

// P12.2: Drop

// four answers a log of the segments 3 to 6, the last one without a file.
func four() []stands {
	return []stands{safely("w00003", row("a")), safely("w00004", row("bc")), safely("w00005", row("d"))}
}

func TestDrop(t *testing.T) {
	for k := 3; k <= 6; k++ {
		d := laid(t, four()...)
		l := opened(t, d, 3, 20, "a", "bc", "d")
		begins(t, l, 6)
		ok(t, d.Arm(30))
		ok(t, l.Drop(k))
		checkLog(t, l, k, 6, []int{28, 19, 9, 0}[k-3])
		checkView(t, d, view{files: append([]stands(nil), four()[k-3:]...), armed: 30 - (k - 3)})
		refuses(t, l, d, api.OK, dropping(k))
		refuses(t, l, d, api.ErrRange, dropping(k-1), dropping(7))
		appends(t, l, "e")
		opened(t, d, k, 20, []string{"a", "bc", "d", "e"}[k-3:]...)
	}
}

func TestDropRefuses(t *testing.T) {
	d := laid(t, four()...)
	l := opened(t, d, 3, 20, "a", "bc", "d")
	for _, k := range append(outside(3, 5), 0, 1, 6, lastSegment, 100000, math.MaxInt32) {
		refuses(t, l, d, api.ErrRange, dropping(k))
	}
	ok(t, d.Arm(0))
	refuses(t, l, d, api.ErrRange, dropping(2), dropping(6)) // ahead of what the disk says
	refuses(t, l, d, api.ErrDown, dropping(4))
	failed(t, l, d)
}

func TestDropOfNoFiles(t *testing.T) {
	d := made(t)
	l := opened(t, d, 3, 20)
	refuses(t, l, d, api.OK, dropping(3))
	refuses(t, l, d, api.ErrRange, dropping(2), dropping(4))
}

func TestDropWhereFilesAreMissing(t *testing.T) {
	for _, missing := range [][]string{{"w00003"}, {"w00004"}, {"w00003", "w00004"}, {"w00005"}, {"w00003", "w00004", "w00005"}} {
		d := laid(t, four()...)
		l := opened(t, d, 3, 20, "a", "bc", "d")
		for _, name := range missing {
			ok(t, d.Remove(name))
		}
		ok(t, l.Drop(5))
		left := four()[2:]
		if missing[len(missing)-1] == "w00005" {
			left = nil
		}
		checkFiles(t, d, left...)
		checkLog(t, l, 5, 5, 9*len(left))
	}
}

func TestDropLeavesOtherFiles(t *testing.T) {
	others := []stands{safely("00003", "x"), safely("w0003", "y"), {"w000034", "z", 0}}
	d := laid(t, append(others, four()...)...)
	l := opened(t, d, 3, 20, "a", "bc", "d")
	ok(t, d.Append("w00001", []byte("laid since"))) // below First, so not of this log
	ok(t, l.Drop(5))
	checkFiles(t, d, others[0], stands{"w00001", "laid since", 0}, others[2], four()[2], others[1])
}

func TestDropEndsWhereThePowerGoes(t *testing.T) {
	for n := range 3 {
		d := laid(t, four()...)
		l := opened(t, d, 3, 20, "a", "bc", "d")
		begins(t, l, 6)
		ok(t, d.Arm(n))
		answers(t, l.Drop(6), api.ErrDown)
		checkView(t, d, view{files: four()[n:], down: true})
		checkLog(t, l, 3, 6, 0)
		failed(t, l, d)
		ok(t, d.Crash(nil))
		checkLog(t, l, 3, 6, len(row("a", "bc", "d"))-[]int{0, 9, 19}[n])
		failed(t, l, d)
		opened(t, d, 6, 20)
		checkFiles(t, d)
	}
	d := laid(t, four()...)
	l := opened(t, d, 3, 20, "a", "bc", "d")
	begins(t, l, 6)
	ok(t, d.Arm(3)) // behind the last change: all was done
	ok(t, l.Drop(6))
	checkLog(t, l, 6, 6, 0)
	refuses(t, l, d, api.OK, dropping(6)) // nothing is there to be removed, so the disk is not asked
	answers(t, l.Sync(), api.ErrDown)
	failed(t, l, d)
}

// P12.3

func TestANilLog(t *testing.T) {
	var l *Log
	for _, c := range []called{appending("a"), appending(""), appending(text(mostPayload + 1)), syncing(), beginning(t), dropping(0), dropping(1), dropping(-1), dropping(math.MaxInt)} {
		if e := c.do(l); e != api.ErrState {
			t.Errorf("%s: %d", c.text, e)
		}
	}
	checkLog(t, l, 0, 0, 0)
}

func TestFirstLastAndSize(t *testing.T) {
	d := laid(t, safely("a", "not of the log"), safely("w00002", row("a")), stands{"w00003", row("bc"), 1}, safely("w00004", ""))
	l := opened(t, d, 2, 20, "a", "bc")
	checkLog(t, l, 2, 4, 19)
	begins(t, l, 4)
	appends(t, l, "d")
	checkLog(t, l, 2, 4, 28)
	ok(t, d.Append("w00005", []byte("laid since"))) // above Last
	checkLog(t, l, 2, 4, 28)
	ok(t, d.Remove("w00002"))
	checkLog(t, l, 2, 4, 19)
	ok(t, d.Arm(0))
	checkLog(t, l, 2, 4, 0)
	ok(t, d.Crash([]int{0, 0, 3})) // no call that the disk refused has failed the log
	checkLog(t, l, 2, 4, 4)
	appends(t, l, "e")
	answers(t, l.Drop(9), api.ErrRange)
	checkLog(t, l, 2, 4, 13)
}

func TestALogFailsWithoutPower(t *testing.T) {
	for _, c := range []called{appending("x"), appending(text(100)), syncing(), beginning(t), dropping(3)} {
		d := laid(t, safely("w00002", row("a")), stands{"w00003", row("bc"), 1})
		l := opened(t, d, 2, 20, "a", "bc")
		ok(t, d.Arm(0))
		refuses(t, l, d, api.ErrDown, c)
		checkLog(t, l, 2, 3, 0)
		failed(t, l, d)
		ok(t, d.Crash([]int{100, 100}))
		checkLog(t, l, 2, 3, 19)
		failed(t, l, d)
		other := opened(t, d, 2, 20, "a", "bc") // the disk itself can be opened again
		appends(t, other, "d")
		failed(t, l, d)
	}
}

func TestALogDoesNotFailWithPower(t *testing.T) {
	d := made(t)
	l := opened(t, d, lastSegment, 20)
	appends(t, l, "a", "b")
	answers(t, l.Append(nil), api.ErrForm)
	answers(t, l.Append(make([]byte, mostPayload+1)), api.ErrLong)
	answers(t, l.Append([]byte("c")), api.ErrRange)
	answers(t, beginning(t).do(l), api.ErrRange)
	answers(t, l.Drop(1), api.ErrRange)
	ok(t, l.Sync())
	checkLog(t, l, lastSegment, lastSegment, 18)

	d = made(t)
	l = opened(t, d, 1, 20)
	ok(t, d.Limit(0))
	answers(t, l.Append([]byte("a")), api.ErrFull)
	ok(t, d.Limit(9))
	appends(t, l, "a")
}

// The power goes behind the change that is the last one of a call: that call is OK, and the log has not failed.
func TestALogWhosePowerGoesBehindACall(t *testing.T) {
	d := made(t)
	l := opened(t, d, 1, 20)
	ok(t, d.Arm(1))
	appends(t, l, "a")
	checkLog(t, l, 1, 1, 0)
	ok(t, d.Crash([]int{9}))
	appends(t, l, "b")
	ok(t, d.Arm(1))
	ok(t, l.Sync())
	ok(t, d.Crash(nil))
	checkLog(t, l, 1, 1, 18)
	ok(t, l.Drop(1))
	appends(t, l, "c")
	ok(t, d.Crash(nil)) // takes c away
	begins(t, l, 2)
	opened(t, d, 1, 20, "a", "b")
}
