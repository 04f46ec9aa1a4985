package custody

import (
	"portage/api"
	"portage/store"
	"portage/wal"
)

// face is what a store tells. The calls that change it are not among these: from outside, a custody is changed by its own alone.
type face interface {
	State() api.State
	Held() []api.Msg
	Find(i api.Id) (api.Msg, bool)
	Seen(i api.Id) bool
}

// ledger is a store with the log of its events; the calls of the store's face are its own.
type ledger struct {
	face
	store  *store.Store // whose face that is
	log    *wal.Log
	failed bool // the disk has answered that there is no power
}

// replay applies the events whose bytes these records are.
func replay(s *store.Store, records [][]byte) api.Errno {
	for _, p := range records {
		e, fault := store.GetEv(p)
		if fault != api.OK || s.Apply(e) != api.OK {
			return api.ErrForm
		}
	}
	return api.OK
}

// put puts an event down, which may be gone again behind a crash.
func (l *ledger) put(e api.Ev) api.Errno {
	if fault := l.write(e); fault != api.OK {
		return fault
	}
	return l.store.Apply(e)
}

// putSafely puts an event down so that it is there behind any crash.
func (l *ledger) putSafely(e api.Ev) api.Errno {
	if fault := l.write(e); fault != api.OK {
		return fault
	}
	if fault := l.noted(l.log.Sync()); fault != api.OK {
		return fault
	}
	return l.store.Apply(e)
}

// write puts the record of an event that may be applied behind the log.
func (l *ledger) write(e api.Ev) api.Errno {
	if fault := l.store.May(e); fault != api.OK {
		return fault
	}
	p, _ := store.PutEv(e) // can't fail: May has seen to it
	return l.noted(l.log.Append(p))
}

// noted answers what the disk, or the log on it, answered; without power the ledger has failed for good.
func (l *ledger) noted(e api.Errno) api.Errno {
	if e == api.ErrDown {
		l.failed = true
	}
	return e
}
