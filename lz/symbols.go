package lz

import "math/bits"

const (
	firstLength  = 257 // the symbol of the shortest copies
	lastLength   = 285 // the symbol of the longest ones alone
	lastDistance = 29

	// So many symbols have each number of extra bits.
	lengthsEach   = 4
	distancesEach = 2
)

// Length, Distance: their symbols; BaseLength, BaseDistance: of a symbol.
func Length(n int) (symbol, bits, extra int) {
	switch {
	case n < shortest || n > longest:
		return -1, 0, 0
	case n == longest:
		return lastLength, 0, 0
	}
	symbol, bits, extra = symbolOf(n-shortest, lengthsEach)
	return firstLength + symbol, bits, extra
}

func Distance(n int) (symbol, bits, extra int) {
	if n < 1 || n > farthest {
		return -1, 0, 0
	}
	return symbolOf(n-1, distancesEach)
}

func BaseLength(symbol int) (base, bits int) {
	switch {
	case symbol < firstLength || symbol > lastLength:
		return 0, 0
	case symbol == lastLength:
		return longest, 0
	}
	base, bits = baseOf(symbol-firstLength, lengthsEach)
	return shortest + base, bits
}

func BaseDistance(symbol int) (base, bits int) {
	if symbol < 0 || symbol > lastDistance {
		return 0, 0
	}
	base, bits = baseOf(symbol, distancesEach)
	return 1 + base, bits
}

// symbolOf counts both from 0 on. The numbers below 2 each are their own symbols; behind them a number's symbol is told by its highest bits, which are as many for all.
func symbolOf(n, each int) (symbol, width, extra int) {
	width = max(0, bits.Len(uint(n))-bits.Len(uint(2*each-1)))
	high := n >> width
	return high + each*width, width, n - high<<width
}

// baseOf is symbolOf, backwards.
func baseOf(symbol, each int) (base, width int) {
	width = max(0, symbol/each-1)
	return (symbol - each*width) << width, width
}
