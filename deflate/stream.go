package deflate

import (
	"gatehouse/api"
	"gatehouse/bits"
)

// Stream: bytes that come one by one.
type Stream struct {
	self    *Stream // a copy is none that NewStream made, and would write into the same memory
	level   int
	waiting []byte
	written int // bytes in all
	closed  bool
}

// NewStream: of a level; Write, Flush, Close: bytes, what is told so far, the end.
func NewStream(level int) (*Stream, api.Errno) {
	if !mayBe(level) {
		return nil, api.ErrArg
	}
	s := &Stream{level: level}
	s.self = s
	return s, api.OK
}

// open: is there anything to be done with it?
func (s *Stream) open() api.Errno {
	if s == nil || s.self != s {
		return api.ErrArg
	}
	if s.closed {
		return api.ErrClosed
	}
	return api.OK
}

func (s *Stream) Write(b []byte) api.Errno {
	if e := s.open(); e != api.OK {
		return e
	}
	if len(b) > most-s.written {
		return api.ErrSize
	}
	s.waiting = append(s.waiting, b...)
	s.written += len(b)
	return api.OK
}

// Flush ends with an empty stored block, as its length begins at a whole byte: so nothing waits for bits to come.
func (s *Stream) Flush() ([]byte, api.Errno) {
	if e := s.open(); e != api.OK {
		return nil, e
	}
	if len(s.waiting) == 0 {
		return nil, api.OK
	}
	w := bits.NewWriter()
	putBlocks(w, s.blocks(false))
	empty := block{ways: onlyStored}
	empty.putOn(w)
	return w.Bytes(), api.OK
}

func (s *Stream) Close() ([]byte, api.Errno) {
	if e := s.open(); e != api.OK {
		return nil, e
	}
	w := bits.NewWriter()
	putBlocks(w, s.blocks(true))
	s.closed = true
	return w.Bytes(), api.OK
}

// blocks: of the bytes that wait; then none do.
func (s *Stream) blocks(last bool) []block {
	l := blocksOf(s.waiting, s.level, last)
	s.waiting = nil
	return l
}
