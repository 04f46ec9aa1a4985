package store

import (
	"portage/api"
	"portage/msg"
)

// PutEv answers the bytes of an event.
func PutEv(e api.Ev) ([]byte, api.Errno) {
	if fault := check(e); fault != api.OK {
		return nil, fault
	}
	var rest []byte
	switch e.Kind { // what is put can't fail: check has seen to it
	case api.EvHold:
		rest, _ = msg.Put(e.Msg)
	case api.EvRelease, api.EvDeliver:
		rest, _ = msg.PutId(e.Msg.Id)
	}
	return append([]byte{byte(e.Kind)}, rest...), api.OK
}

// GetEv answers the event of which p are the bytes.
func GetEv(p []byte) (api.Ev, api.Errno) {
	if len(p) == 0 {
		return api.Ev{}, api.ErrForm
	}
	m, fault := getMsg(int(p[0]), p[1:])
	if fault != api.OK {
		return api.Ev{}, fault
	}
	return api.Ev{Kind: int(p[0]), Msg: m}, api.OK
}

// getMsg answers the Msg of an event of that kind, of whose bytes p are those behind the kind's.
func getMsg(kind int, p []byte) (api.Msg, api.Errno) {
	switch kind {
	case api.EvBoot:
		if len(p) == 0 {
			return api.Msg{}, api.OK
		}
	case api.EvHold:
		return msg.Get(p)
	case api.EvRelease, api.EvDeliver:
		i, fault := msg.GetId(p)
		return api.Msg{Id: i}, fault
	}
	return api.Msg{}, api.ErrForm
}

// check answers OK, if an event is right.
func check(e api.Ev) api.Errno {
	switch e.Kind {
	case api.EvBoot:
		if e.Msg.Id != (api.Id{}) || len(e.Msg.Data) > 0 {
			return api.ErrForm
		}
		return api.OK
	case api.EvHold:
		return msg.CheckMsg(e.Msg)
	case api.EvRelease, api.EvDeliver:
		if fault := msg.Check(e.Msg.Id); fault != api.OK || len(e.Msg.Data) == 0 {
			return fault
		}
		return api.ErrForm
	}
	return api.ErrRange
}
