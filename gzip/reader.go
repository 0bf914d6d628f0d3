package gzip

import (
	"gatehouse/api"
	"gatehouse/inflate"
)

// Flags of a member's head: parts that it has. That it is a text (1) counts for nothing.
const (
	hasHalf    = 2
	hasExtra   = 4
	hasName    = 8
	hasComment = 16
	known      = 31 // flags up to here
)

// Bytes of blocks that are tried: these, and so many times more if they are not enough.
const (
	little = 1024
	more   = 8
)

// reader: what was read of members so far. It gives up by a panic with its error.
type reader struct {
	b       []byte
	at      int // where the next byte is
	begin   int // where the member begins
	most    int
	out     []byte
	members int
}

// whole: members that are read up to the end. Here a reader's panics end.
func whole(b []byte, most int) (r *reader, e api.Errno) {
	if most < 0 || most > api.MaxBytes {
		return nil, api.ErrArg
	}
	if len(b) > api.MaxBytes {
		return nil, api.ErrSize
	}
	defer func() {
		switch wrong := recover().(type) {
		case nil:
		case api.Errno:
			r, e = nil, wrong
		default: // none that a reader gave up with
			panic(wrong)
		}
	}()
	r = &reader{b: b, most: most}
	for r.members == 0 || r.at < len(b) {
		r.member()
	}
	return r, api.OK
}

// part: of a head that has this flag.
type part struct {
	flag uint32
	read func()
}

func (r *reader) member() {
	r.begin = r.at
	for _, c := range [...]uint32{first, second, method} {
		must(r.number(1) == c)
	}
	flags := r.number(1)
	must(flags <= known)
	r.take(6) // the time and what counts for nothing
	for _, p := range [...]part{{hasExtra, r.extra}, {hasName, r.text}, {hasComment, r.text}, {hasHalf, r.half}} {
		if flags&p.flag != 0 {
			p.read()
		}
	}
	r.blocks()
	r.members++
}

func (r *reader) extra() { r.take(int(r.number(2))) }

// text: up to a byte 0.
func (r *reader) text() {
	for r.number(1) != 0 {
	}
}

// half: of the sum of the head.
func (r *reader) half() {
	sum := Crc(r.b[r.begin:r.at])
	must(r.number(2) == sum&0xffff)
}

// blocks: and the sum and the size behind them. Bytes that are missing there come ahead of a wrong sum.
func (r *reader) blocks() {
	out := r.inflated()
	sum, size := r.number(4), r.number(4)
	must(sum == Crc(out) && size == uint32(len(out)))
	r.out = append(r.out, out...)
}

// inflated: what blocks are. Inflate works with all that it is handed, so that many short members would take long: it gets little at first. If that is not enough, it ends too early, and tells nothing else.
func (r *reader) inflated() []byte {
	left := r.b[r.at:]
	for size := little; ; size *= more {
		out, used, e := inflate.Inflate(left[:min(size, len(left))], r.most-len(r.out))
		switch {
		case e == api.OK:
			r.at += used
			return out
		case e != api.ErrEnd || size >= len(left):
			panic(e)
		}
	}
}

// number: of some bytes, its low one first.
func (r *reader) number(size int) uint32 {
	n := uint32(0)
	for k, c := range r.take(size) {
		n += uint32(c) << (8 * k)
	}
	return n
}

func (r *reader) take(n int) []byte {
	if n > len(r.b)-r.at {
		panic(api.ErrEnd)
	}
	r.at += n
	return r.b[r.at-n : r.at]
}

func must(ok bool) {
	if !ok {
		panic(api.ErrGzip)
	}
}
