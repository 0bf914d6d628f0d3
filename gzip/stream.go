package gzip

import (
	"gatehouse/api"
	"gatehouse/deflate"
)

// inner: deflate's Stream, by a name that no other package can reach: what is written past a Stream would be missing in its sum.
type inner = deflate.Stream

// Stream: a member that grows.
type Stream struct {
	*inner
	self  *Stream // a copy is none that NewStream made, and would go on with an old sum
	begun bool    // was the head told?
	sum   uint32
	size  int
}

// NewStream: of a level.
func NewStream(level int) (*Stream, api.Errno) {
	blocks, e := deflate.NewStream(level)
	if e != api.OK {
		return nil, e
	}
	s := &Stream{inner: blocks}
	s.self = s
	return s, api.OK
}

// made: by NewStream?
func (s *Stream) made() bool { return s != nil && s.self == s }

func (s *Stream) Write(b []byte) api.Errno {
	if !s.made() {
		return api.ErrArg
	}
	e := s.inner.Write(b)
	if e == api.OK {
		s.sum, s.size = Add(s.sum, b), s.size+len(b)
	}
	return e
}

func (s *Stream) Flush() ([]byte, api.Errno) {
	if !s.made() {
		return nil, api.ErrArg
	}
	blocks, e := s.inner.Flush()
	return s.told(blocks), e
}

func (s *Stream) Close() ([]byte, api.Errno) {
	if !s.made() {
		return nil, api.ErrArg
	}
	blocks, e := s.inner.Close()
	if e != api.OK {
		return nil, e
	}
	return putEnd(s.told(blocks), s.sum, s.size), api.OK
}

// told: blocks, behind the head if they are the first ones. Where there are none, the head waits.
func (s *Stream) told(blocks []byte) []byte {
	if s.begun || len(blocks) == 0 {
		return blocks
	}
	s.begun = true
	return append(head(0), blocks...)
}
