package lz

import "gatehouse/api"

// Expand: pieces become a text again.
func Expand(l []Piece, most int) ([]byte, api.Errno) {
	if most < 0 || most > api.MaxBytes {
		return nil, api.ErrArg
	}
	var b []byte
	for _, p := range l {
		if !p.may() || p.Dist > len(b) {
			return nil, api.ErrBlock
		}
		if p.size() > most-len(b) {
			return nil, api.ErrSize
		}
		b = p.onto(b)
	}
	return b, api.OK
}

// onto: behind a text. A copy goes byte by byte, as it may reach into itself.
func (p Piece) onto(b []byte) []byte {
	if p.Len == 0 {
		return append(b, p.Byte)
	}
	for range p.Len {
		b = append(b, b[len(b)-p.Dist])
	}
	return b
}
