package deflate

import (
	"iter"
	"slices"

	"gatehouse/bits"
	"gatehouse/huff"
)

const (
	literalSymbols  = 286
	distanceSymbols = 30
	longest         = 15 // bits of a literal's, or a distance's code
	longestOfRuns   = 7

	// At least so many lengths are told of each kind.
	leastLiterals  = end + 1
	leastDistances = 1
	leastOfRuns    = 4

	// Symbols of runs from here on stand for more than one length.
	lastAgain = 16
	someZeros = 17
	manyZeros = 18
)

// order: in which the lengths of the symbols of runs are told.
var order = [...]int{16, 17, 18, 0, 8, 7, 9, 6, 10, 5, 11, 4, 12, 3, 13, 2, 14, 1, 15}

// coderOf: puts symbols by codes of these lengths, and their extra bits.
func coderOf(lengths []int, put putter) func(symbol, width, extra int) {
	codes, _ := huff.Codes(lengths) // fixed lengths, and those that huff gave, may be
	for s, c := range codes {
		codes[s] = bits.Reverse(c, lengths[s]) // a code's highest bit comes first
	}
	return func(symbol, width, extra int) {
		put(codes[symbol], lengths[symbol])
		put(extra, width)
	}
}

// lengths: the block's own.
func (b block) lengths() (literals, distances []int) {
	literals, distances = make([]int, literalSymbols), make([]int, distanceSymbols)
	b.symbols(
		func(symbol, _, _ int) { literals[symbol]++ },
		func(symbol, _, _ int) { distances[symbol]++ })
	return bestLengths(literals, longest), bestLengths(distances, longest)
}

func bestLengths(counts []int, limit int) []int {
	lengths, _ := huff.Lengths(counts, limit) // so few symbols of one block have codes in any limit that is asked for here
	return lengths
}

// putHead: what a block needs to be told of its own lengths.
func putHead(literals, distances []int, put putter) {
	literals, distances = told(literals, leastLiterals), told(distances, leastDistances)
	row := slices.Concat(literals, distances)
	ofRuns := lengthsOfRuns(row)
	ordered := make([]int, len(order))
	for k, symbol := range order {
		ordered[k] = ofRuns[symbol]
	}
	ordered = told(ordered, leastOfRuns)
	put(len(literals)-leastLiterals, 5)
	put(len(distances)-leastDistances, 5)
	put(len(ordered)-leastOfRuns, 4)
	for _, length := range ordered {
		put(length, 3)
	}
	code := coderOf(ofRuns, put)
	for r := range runs(row) {
		code(r.symbol, r.width, r.extra)
	}
}

// told: those up to the last one that is not 0.
func told(lengths []int, least int) []int {
	n := len(lengths)
	for n > least && lengths[n-1] == 0 {
		n--
	}
	return lengths[:n]
}

// lengthsOfRuns: of their symbols, for a row's runs.
func lengthsOfRuns(row []int) []int {
	counts := make([]int, len(order))
	for r := range runs(row) {
		counts[r.symbol]++
	}
	return bestLengths(atLeastTwo(counts), longestOfRuns)
}

// atLeastTwo: one code alone would leave room, which no decoder takes for the lengths of runs.
func atLeastTwo(counts []int) []int {
	zeros := 0
	for _, n := range counts {
		if n == 0 {
			zeros++
		}
	}
	if zeros == len(counts)-1 {
		counts[slices.Index(counts, 0)] = 1
	}
	return counts
}

// run: a symbol, how many extra bits it has, and what they are.
type run struct{ symbol, width, extra int }

// runs: of a row of lengths.
func runs(row []int) iter.Seq[run] {
	return func(yield func(run) bool) {
		for k := 0; k < len(row); {
			r, size := runAt(row, k)
			if !yield(r) {
				return
			}
			k += size
		}
	}
}

// runAt: the run that begins at a place, and how many lengths it stands for.
func runAt(row []int, place int) (r run, size int) {
	length := row[place]
	n := alike(row[place:])
	switch {
	case length == 0 && n >= 11:
		n = min(n, 138)
		return run{manyZeros, 7, n - 11}, n
	case length == 0 && n >= 3:
		return run{someZeros, 3, n - 3}, n
	case length != 0 && n >= 3 && place > 0 && row[place-1] == length:
		n = min(n, 6)
		return run{lastAgain, 2, n - 3}, n
	}
	return run{symbol: length}, 1
}

// alike: how many stand at the beginning that are as the first one.
func alike(row []int) int {
	n := 1
	for n < len(row) && row[n] == row[0] {
		n++
	}
	return n
}
