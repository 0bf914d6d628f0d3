package lz

import (
	"math"
	"testing"
)

// row: of RFC 1951, 3.2.5: a symbol, its extra bits, and the least and the greatest number that have it.
type row struct{ symbol, bits, least, greatest int }

func lengthRows() []row {
	return []row{
		{257, 0, 3, 3}, {258, 0, 4, 4}, {259, 0, 5, 5}, {260, 0, 6, 6}, {261, 0, 7, 7}, {262, 0, 8, 8}, {263, 0, 9, 9}, {264, 0, 10, 10},
		{265, 1, 11, 12}, {266, 1, 13, 14}, {267, 1, 15, 16}, {268, 1, 17, 18},
		{269, 2, 19, 22}, {270, 2, 23, 26}, {271, 2, 27, 30}, {272, 2, 31, 34},
		{273, 3, 35, 42}, {274, 3, 43, 50}, {275, 3, 51, 58}, {276, 3, 59, 66},
		{277, 4, 67, 82}, {278, 4, 83, 98}, {279, 4, 99, 114}, {280, 4, 115, 130},
		{281, 5, 131, 162}, {282, 5, 163, 194}, {283, 5, 195, 226}, {284, 5, 227, 257},
		{285, 0, 258, 258},
	}
}

func distanceRows() []row {
	return []row{
		{0, 0, 1, 1}, {1, 0, 2, 2}, {2, 0, 3, 3}, {3, 0, 4, 4},
		{4, 1, 5, 6}, {5, 1, 7, 8}, {6, 2, 9, 12}, {7, 2, 13, 16},
		{8, 3, 17, 24}, {9, 3, 25, 32}, {10, 4, 33, 48}, {11, 4, 49, 64},
		{12, 5, 65, 96}, {13, 5, 97, 128}, {14, 6, 129, 192}, {15, 6, 193, 256},
		{16, 7, 257, 384}, {17, 7, 385, 512}, {18, 8, 513, 768}, {19, 8, 769, 1024},
		{20, 9, 1025, 1536}, {21, 9, 1537, 2048}, {22, 10, 2049, 3072}, {23, 10, 3073, 4096},
		{24, 11, 4097, 6144}, {25, 11, 6145, 8192}, {26, 12, 8193, 12288}, {27, 12, 12289, 16384},
		{28, 13, 16385, 24576}, {29, 13, 24577, 32768},
	}
}

// face: both kinds of symbols have the same promises.
type face struct {
	name  string
	rows  []row
	of    func(n int) (symbol, bits, extra int)
	base  func(symbol int) (base, bits int)
	least int
}

func faces() []face {
	return []face{
		{"lengths", lengthRows(), Length, BaseLength, 3},
		{"distances", distanceRows(), Distance, BaseDistance, 1},
	}
}

func TestP404Symbols(t *testing.T) {
	for _, f := range faces() {
		n := f.least
		for _, r := range f.rows {
			if base, bits := f.base(r.symbol); base != r.least || bits != r.bits {
				t.Errorf("%s: the base of %d: %d, %d", f.name, r.symbol, base, bits)
			}
			for ; n <= r.greatest; n++ {
				if symbol, bits, extra := f.of(n); symbol != r.symbol || bits != r.bits || extra != n-r.least {
					t.Errorf("%s: of %d: %d, %d, %d", f.name, n, symbol, bits, extra)
				}
			}
		}
	}
}

func TestP404NoSymbols(t *testing.T) {
	for _, f := range faces() {
		last := f.rows[len(f.rows)-1]
		for _, n := range []int{f.least - 1, last.greatest + 1, 0, -1, -3, 65536, 1<<32 + 5, math.MinInt, math.MinInt + 3, math.MaxInt} {
			if symbol, bits, extra := f.of(n); symbol != -1 || bits != 0 || extra != 0 {
				t.Errorf("%s: of %d: %d, %d, %d", f.name, n, symbol, bits, extra)
			}
		}
		for _, s := range []int{f.rows[0].symbol - 1, last.symbol + 1, last.symbol + 2, -1, 287, 256, 1<<32 + 5, math.MinInt, math.MaxInt} {
			if base, bits := f.base(s); base != 0 || bits != 0 {
				t.Errorf("%s: the base of %d: %d, %d", f.name, s, base, bits)
			}
		}
	}
	for s := range 257 {
		if base, bits := BaseLength(s); base != 0 || bits != 0 {
			t.Errorf("BaseLength(%d): %d, %d", s, base, bits)
		}
	}
}

func TestP408Codes(t *testing.T) {
	for _, f := range faces() {
		before := -1
		for n := f.least; n <= f.rows[len(f.rows)-1].greatest; n++ {
			symbol, bits, extra := f.of(n)
			base, width := f.base(symbol)
			if base+extra != n || width != bits || extra < 0 || extra >= 1<<bits || symbol < before {
				t.Errorf("%s: of %d: %d, %d, %d; its base: %d, %d", f.name, n, symbol, bits, extra, base, width)
			}
			before = symbol
		}
	}
}
