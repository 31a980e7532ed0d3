package flat

import (
	"slices"

	"framewarden/api"
	"framewarden/keys"
)

// newKey takes a key of p, and answers which one.
func (p *process) newKey() (int, api.Errno) {
	l, k, e := keys.New(p.keys)
	if e != api.OK {
		return 0, e
	}
	p.keys = l
	return k, api.OK
}

// freeKey gives a key of p back that no page has.
func (p *process) freeKey(op api.Op) api.Errno {
	l, e := keys.Free(p.keys, op.Key)
	if e != api.OK {
		return e
	}
	if slices.ContainsFunc(p.regions, func(x api.Region) bool { return x.Attr.Key == op.Key }) {
		return api.ErrHeld
	}
	p.keys = l
	return api.OK
}

// setKey sets what a key of p denies.
func (p *process) setKey(op api.Op) api.Errno {
	l, e := keys.Set(p.keys, op.Key, op.Rights)
	if e != api.OK {
		return e
	}
	p.keys = l
	return api.OK
}
