// Package ram: bytes of frames; see doc/01-ram.md.
package ram

import "framewarden/api"

const maxWidth = 4

// New answers the bytes of all frames, all 0.
func New() []byte {
	return make([]byte, api.Frames*api.PageSize)
}

// Get answers the number that the n bytes from place at on are.
func Get(r []byte, at, n int) (int, api.Errno) {
	if !has(r, at, n) {
		return 0, api.ErrRange
	}
	v := 0
	for i := range n {
		v |= int(r[at+i]) << (8 * i)
	}
	return v, api.OK
}

// Put answers a new list like r, in which the n bytes from place at on are
// the lowest n of v.
func Put(r []byte, at, n, v int) ([]byte, api.Errno) {
	if !has(r, at, n) {
		return nil, api.ErrRange
	}
	out := make([]byte, len(r))
	copy(out, r)
	for i := range n {
		out[at+i] = byte(v >> (8 * i))
	}
	return out, api.OK
}

// Frame answers the place of frame n's first byte, or -1.
func Frame(n int) int {
	if n < 0 || n >= api.Frames {
		return -1
	}
	return n * api.PageSize
}

// has tells whether n bytes may be asked for, and all of them are in r.
func has(r []byte, at, n int) bool {
	if n < 1 || n > maxWidth {
		return false
	}
	// n is taken off the length, as at + n could go round.
	return at >= 0 && at <= len(r)-n
}
