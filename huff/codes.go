package huff

import (
	"gatehouse/api"
	"gatehouse/bits"
)

// Codes: of lengths.
func Codes(lengths []int) ([]int, api.Errno) {
	if _, may := weight(lengths); !may {
		return nil, api.ErrCode
	}
	codes := make([]int, len(lengths))
	next, last := 0, 0
	for _, s := range ranked(lengths) {
		codes[s] = next << (lengths[s] - last)
		next, last = codes[s]+1, lengths[s]
	}
	return codes, api.OK
}

// Full: do they leave nothing?
func Full(lengths []int) bool {
	sum, may := weight(lengths)
	return may && sum == whole
}

// Put: a symbol.
func Put(w *bits.Writer, codes, lengths []int, symbol int) api.Errno {
	if symbol < 0 || symbol >= min(len(codes), len(lengths)) {
		return api.ErrArg
	}
	code, length := codes[symbol], lengths[symbol]
	// Of a code below 0, too, the shift leaves something.
	if length < 1 || length > longest || code>>length != 0 {
		return api.ErrArg
	}
	// A Writer puts the lowest bit first.
	return w.Put(bits.Reverse(code, length), length)
}
