package huff

import (
	"slices"

	"gatehouse/api"
)

const mostCount = 1 << 40

// item: a coin, or a pair of items, and the symbols of the coins in it.
type item[S any] struct {
	count   int
	symbols []S
}

// Lengths: the best ones.
func Lengths(counts []int, limit int) ([]int, api.Errno) {
	if !mayCount(counts) || limit < 1 || limit > longest {
		return nil, api.ErrArg
	}
	symbols := ranked(counts)
	lengths := make([]int, len(counts))
	switch k := len(symbols); {
	case k > 1<<limit:
		return nil, api.ErrArg
	case k == 1: // no two items are taken, but it needs a code
		lengths[symbols[0]] = 1
	case k > 1:
		for _, i := range lastRow(coinsOf(counts, symbols), limit)[:2*k-2] {
			for _, s := range i.symbols {
				lengths[s]++
			}
		}
	}
	return lengths, api.OK
}

func mayCount(counts []int) bool {
	for _, c := range counts {
		if c < 0 || c > mostCount {
			return false
		}
	}
	return len(counts) <= mostSymbols
}

func coinsOf(counts, symbols []int) []item[int] {
	var row []item[int]
	for _, s := range symbols {
		row = append(row, item[int]{counts[s], []int{s}})
	}
	return row
}

// lastRow: of as many as limit; the coins are the first one.
func lastRow[S any](coins []item[S], limit int) []item[S] {
	row := coins
	for range limit - 1 {
		row = merged(coins, paired(row))
	}
	return row
}

// paired: an odd item at the end is left away.
func paired[S any](row []item[S]) []item[S] {
	var l []item[S]
	for k := 1; k < len(row); k += 2 {
		one, two := row[k-1], row[k]
		l = append(l, item[S]{one.count + two.count, slices.Concat(one.symbols, two.symbols)})
	}
	return l
}

// merged: by their counts, a coin ahead of a pair of the same count.
func merged[S any](coins, pairs []item[S]) []item[S] {
	var row []item[S]
merge:
	for {
		switch {
		case len(coins) == 0:
			row = append(row, pairs...)
			break merge
		case len(pairs) == 0:
			row = append(row, coins...)
			break merge
		case coins[0].count <= pairs[0].count:
			row, coins = append(row, coins[0]), coins[1:]
		default:
			row, pairs = append(row, pairs[0]), pairs[1:]
		}
	}
	return row
}
