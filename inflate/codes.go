package inflate

import (
	"slices"

	"gatehouse/api"
	"gatehouse/huff"
)

const (
	mostMore = 29 // literals above the least number of them, and distances above theirs

	// Symbols of lengths from here on stand for more than one length.
	lastAgain = 16
	someZeros = 17
	manyZeros = 18
)

// order: in which the lengths of the symbols of lengths are told.
var order = [...]int{16, 17, 18, 0, 8, 7, 9, 6, 10, 5, 11, 4, 12, 3, 13, 2, 14, 1, 15}

// codes: of a block.
type codes struct{ literals, distances *huff.Decoder }

func newCodes(literals, distances []int) *codes {
	return &codes{newDecoder(literals), newDecoder(distances)}
}

func newDecoder(lengths []int) *huff.Decoder {
	d, e := huff.NewDecoder(lengths)
	must(e)
	return d
}

// Fixed: lengths of the fixed codes.
func Fixed() (literals, distances []int) {
	for symbol := range 288 {
		length := 8
		switch {
		case symbol >= 144 && symbol < 256:
			length = 9
		case symbol >= 256 && symbol < 280:
			length = 7
		}
		literals = append(literals, length)
	}
	return literals, slices.Repeat([]int{5}, 32)
}

// lengths: those that a dynamic block tells.
func (s *stream) lengths() (literals, distances []int) {
	h, d, c := s.take(5), s.take(5), s.take(4)
	if h > mostMore || d > mostMore {
		panic(api.ErrBlock)
	}
	told := s.toldLengths(c + 4)
	if !huff.Full(told) {
		panic(api.ErrCode)
	}
	split := h + end + 1
	row := s.row(newDecoder(told), split+d+1)
	literals, distances = row[:split], row[split:]
	if literals[end] == 0 || !enough(literals) || !enough(distances) {
		panic(api.ErrCode)
	}
	return literals, distances
}

// toldLengths: of the symbols of lengths, the first n of the order.
func (s *stream) toldLengths(n int) []int {
	lengths := make([]int, len(order))
	for k := range n {
		lengths[order[k]] = s.take(3)
	}
	return lengths
}

// row: so many lengths.
func (s *stream) row(d *huff.Decoder, size int) []int {
	var row []int
	for len(row) < size {
		length, times := s.run(d, row)
		if times > size-len(row) {
			panic(api.ErrCode)
		}
		row = append(row, slices.Repeat([]int{length}, times)...)
	}
	return row
}

// run: the next length of a row, and how many times it stands there.
func (s *stream) run(d *huff.Decoder, row []int) (length, times int) {
	switch symbol := s.next(d); symbol {
	case lastAgain:
		times = 3 + s.take(2)
		if len(row) == 0 {
			panic(api.ErrCode)
		}
		return row[len(row)-1], times
	case someZeros:
		return 0, 3 + s.take(3)
	case manyZeros:
		return 0, 11 + s.take(7)
	default:
		return symbol, 1
	}
}

// enough: may a block have codes of these lengths? One code alone leaves half of the weight, and of nothing but bytes there is no distance.
func enough(lengths []int) bool {
	codes, sum := 0, 0
	for _, l := range lengths {
		if l != 0 {
			codes, sum = codes+1, sum+l
		}
	}
	return huff.Full(lengths) || codes == 0 || codes == 1 && sum == 1
}
