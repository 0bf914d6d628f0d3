package inflate

import (
	"gatehouse/api"
	"gatehouse/bits"
	"gatehouse/huff"
	"gatehouse/lz"
)

// end: the symbol behind a block's last one. Those below it are bytes, those above it lengths.
const end = 256

// stream: what was read of it so far. It gives up by a panic with its error.
type stream struct {
	in     *bits.Reader
	size   int // of all bytes that are handed in
	most   int
	out    []byte
	blocks []Block
	known  *codes // the fixed ones, once they were needed: a block may be shorter than they take to make
}

func newStream(b []byte, most int) *stream {
	return &stream{in: bits.NewReader(b), size: len(b), most: most}
}

// begun: bytes of which a bit was taken.
func (s *stream) begun() int { return s.size - s.in.Left()/8 }

func (s *stream) take(n int) int {
	number, e := s.in.Take(n)
	must(e)
	return number
}

func (s *stream) next(d *huff.Decoder) int {
	symbol, e := d.Next(s.in)
	must(e)
	return symbol
}

func must(e api.Errno) {
	if e != api.OK {
		panic(e)
	}
}

// read: block by block.
func (s *stream) read() {
	kinds := [...]func(*stream){(*stream).stored, (*stream).fixed, (*stream).dynamic}
	for last := 0; last == 0; {
		last = s.take(1)
		kind := s.take(2)
		if kind >= len(kinds) {
			panic(api.ErrBlock)
		}
		before := len(s.out)
		kinds[kind](s)
		s.blocks = append(s.blocks, Block{kind, len(s.out) - before})
	}
}

func (s *stream) stored() {
	s.in.Align()
	n, m := s.take(16), s.take(16)
	if n+m != 1<<16-1 {
		panic(api.ErrBlock)
	}
	s.room(n)
	b, e := s.in.Raw(n)
	must(e)
	s.out = append(s.out, b...)
}

func (s *stream) fixed() {
	if s.known == nil {
		s.known = newCodes(Fixed())
	}
	s.symbols(s.known)
}

func (s *stream) dynamic() { s.symbols(newCodes(s.lengths())) }

// symbols: of a block, up to its end.
func (s *stream) symbols(c *codes) {
grow:
	for {
		switch symbol := s.next(c.literals); {
		case symbol < end:
			s.room(1)
			s.out = append(s.out, byte(symbol))
		case symbol == end:
			break grow
		default:
			length := s.number(lz.BaseLength(symbol))
			s.again(length, s.number(lz.BaseDistance(s.next(c.distances))))
		}
	}
}

// number: of a symbol that has this base and so many extra bits. The base 0 is that of none.
func (s *stream) number(base, extra int) int {
	if base == 0 {
		panic(api.ErrCode)
	}
	return base + s.take(extra)
}

// again: bytes that are there already. They go one by one, as a copy may reach into itself.
func (s *stream) again(length, dist int) {
	if dist > len(s.out) {
		panic(api.ErrBlock)
	}
	s.room(length)
	for range length {
		s.out = append(s.out, s.out[len(s.out)-dist])
	}
}

// room: for so many bytes more?
func (s *stream) room(n int) {
	if n > s.most-len(s.out) {
		panic(api.ErrSize)
	}
}
