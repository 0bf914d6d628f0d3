package ascii

import (
	"bytes"

	"gatehouse/api"
)

// Queue: of bytes.
type Queue struct {
	self     *Queue // a copy is none that NewQueue made, and would write into the same memory
	limit    int
	held     bytes.Buffer
	searched int // so many at the beginning have no byte 10: a line that comes byte by byte is not searched anew each time
}

// NewQueue: an empty one.
func NewQueue(limit int) (*Queue, api.Errno) {
	if limit < 1 || limit > api.MaxBytes {
		return nil, api.ErrArg
	}
	q := &Queue{limit: limit}
	q.self = q
	return q, api.OK
}

// made: by NewQueue?
func (q *Queue) made() bool { return q != nil && q.self == q }

// Put: bytes go in; Take: come out; Peek: are looked at; Line: a line comes out; Len: how many.
func (q *Queue) Put(b []byte) api.Errno {
	if !q.made() {
		return api.ErrArg
	}
	if len(b) > q.limit-q.held.Len() {
		return api.ErrSize
	}
	q.held.Write(b)
	return api.OK
}

func (q *Queue) Take(n int) []byte { return q.first(n, q.takeOut) }

func (q *Queue) Peek(n int) []byte { return q.first(n, q.lookAt) }

func (q *Queue) Line() ([]byte, bool) {
	if !q.made() {
		return nil, false
	}
	rest := q.held.Bytes()[q.searched:]
	i := bytes.IndexByte(rest, '\n')
	if i < 0 {
		q.searched += len(rest)
		return nil, false
	}
	line := q.Take(q.searched + i)
	q.takeOut(1)
	return bytes.TrimSuffix(line, []byte{'\r'}), true
}

func (q *Queue) Len() int {
	if !q.made() {
		return 0
	}
	return q.held.Len()
}

// first copies what give gives of the first n bytes, or of all: what it gives is the queue's own memory.
func (q *Queue) first(n int, give func(n int) []byte) []byte {
	n = min(n, q.Len())
	if n < 1 {
		return nil
	}
	return bytes.Clone(give(n))
}

func (q *Queue) takeOut(n int) []byte {
	q.searched = max(0, q.searched-n)
	return q.held.Next(n)
}

func (q *Queue) lookAt(n int) []byte { return q.held.Bytes()[:n] }
