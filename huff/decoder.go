package huff

import (
	"gatehouse/api"
	"gatehouse/bits"
)

// code: so many bits, the first one the highest.
type code struct{ length, bits int }

// Decoder: of lengths.
type Decoder struct {
	self    *Decoder // a copy is none that NewDecoder made
	symbols map[code]int
}

// NewDecoder: of lengths.
func NewDecoder(lengths []int) (*Decoder, api.Errno) {
	codes, e := Codes(lengths)
	if e != api.OK {
		return nil, e
	}
	d := &Decoder{symbols: map[code]int{}}
	for s, l := range lengths {
		if l != 0 {
			d.symbols[code{l, codes[s]}] = s
		}
	}
	d.self = d
	return d, api.OK
}

// made: by NewDecoder?
func (d *Decoder) made() bool { return d != nil && d.self == d }

// Next: a symbol.
func (d *Decoder) Next(r *bits.Reader) (int, api.Errno) {
	if !d.made() {
		return 0, api.ErrArg
	}
	// No bits: whether r can be taken from at all, though there are no codes.
	if _, e := r.Take(0); e != api.OK {
		return 0, e
	}
	if len(d.symbols) == 0 {
		return 0, api.ErrCode
	}
	taken := code{}
	for taken.length < longest {
		bit, e := r.Take(1)
		if e != api.OK {
			return 0, e
		}
		taken = code{taken.length + 1, taken.bits<<1 | bit}
		if s, ok := d.symbols[taken]; ok {
			return s, api.OK
		}
	}
	return 0, api.ErrCode
}
