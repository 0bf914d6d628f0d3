package bits

import (
	"bytes"

	"gatehouse/api"
)

// store: what a Reader has.
type store struct {
	row []byte
}

func (s *store) size() int { return 8 * len(s.row) }

func (s *store) bit(k int) int {
	if s.row[k/8]&masks[k%8] == 0 {
		return 0
	}
	return 1
}

// Reader: bits that are taken.
type Reader struct {
	store
	self  *Reader // a copy is none that NewReader made
	taken int
}

// NewReader: of bytes.
func NewReader(b []byte) *Reader {
	r := &Reader{store: store{bytes.Clone(b)}}
	r.self = r
	return r
}

// made: by NewReader?
func (r *Reader) made() bool { return r != nil && r.self == r }

func (r *Reader) Take(bits int) (int, api.Errno) {
	if !r.made() || bits < 0 || bits > most {
		return 0, api.ErrArg
	}
	if bits > r.Left() {
		return 0, api.ErrEnd
	}
	n := 0
	for k := range bits {
		n |= r.bit(r.taken+k) << k
	}
	r.taken += bits
	return n, api.OK
}

// begun: bytes of which a bit was taken. The next one begins where an Align ends.
func (r *Reader) begun() int { return (r.taken + 7) / 8 }

func (r *Reader) Align() {
	if r.made() {
		r.taken = 8 * r.begun()
	}
}

func (r *Reader) Raw(n int) ([]byte, api.Errno) {
	if !r.made() || n < 0 {
		return nil, api.ErrArg
	}
	rest := r.row[r.begun():]
	if n > len(rest) {
		return nil, api.ErrEnd
	}
	r.Align()
	r.taken += 8 * n
	return bytes.Clone(rest[:n]), api.OK
}

func (r *Reader) Left() int {
	if !r.made() {
		return 0
	}
	return r.size() - r.taken
}
