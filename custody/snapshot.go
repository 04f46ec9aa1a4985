package custody

import (
	"slices"
	"strconv"
	"strings"

	"portage/api"
	"portage/disk"
	"portage/snap"
	"portage/store"
	"portage/wal"
)

const (
	draft = "t" // the file of a snapshot that is not whole yet

	snapshotMark = "s"
	segmentMark  = "w"
)

// snapshotName answers the name of the file that is the snapshot number k: that of the segment, but for what it begins with.
func snapshotName(k int) string {
	return snapshotMark + strings.TrimPrefix(wal.Name(k), segmentMark)
}

// snapshotNumber answers which snapshot a file is; 0, if it is none.
func snapshotNumber(name string) int {
	k, _ := strconv.Atoi(strings.TrimPrefix(name, snapshotMark))
	if wal.Name(k) == "" || snapshotName(k) != name { // no number of a snapshot, or another count of digits
		return 0
	}
	return k
}

// begun answers the store of self with which the log begins, and the number of the snapshot that says it; 0, and a store that has nothing, if there is none.
func begun(d *disk.Disk, self int, q api.Quota) (*store.Store, int, api.Errno) {
	if e := removeDraft(d); e != api.OK {
		return nil, 0, e
	}
	k, p, e := latest(d)
	if e != api.OK {
		return nil, 0, e
	}
	if k == 0 {
		s, e := store.New(self, q)
		return s, 0, e
	}
	st, e := snap.Get(p)
	if e != api.OK || st.Self != self {
		return nil, 0, api.ErrForm
	}
	s, e := store.From(q, st)
	return s, k, e
}

// latest answers the number and the bytes of the snapshot with the greatest number, and takes all others away; 0, if there is none.
func latest(d *disk.Disk) (int, []byte, api.Errno) {
	var numbers []int // rising, as the names are
	for _, name := range d.Names() {
		if k := snapshotNumber(name); k != 0 {
			numbers = append(numbers, k)
		}
	}
	if len(numbers) == 0 {
		return 0, nil, api.OK
	}
	last := len(numbers) - 1
	p, e := d.Read(snapshotName(numbers[last]))
	if e != api.OK {
		return 0, nil, e
	}
	for _, k := range numbers[:last] {
		if e := d.Remove(snapshotName(k)); e != api.OK {
			return 0, nil, e
		}
	}
	return numbers[last], p, api.OK
}

// removeDraft takes the draft away, if there is one.
func removeDraft(d *disk.Disk) api.Errno {
	if !slices.Contains(d.Names(), draft) {
		return api.OK
	}
	return d.Remove(draft)
}
