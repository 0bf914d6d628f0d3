package deflate

import (
	"bytes"
	"compress/flate"
	"io"
	"math/rand"
	"slices"
	"testing"

	"gatehouse/api"
	"gatehouse/huff"
	"gatehouse/inflate"
	"gatehouse/lz"
)

// model: the chapter once more: bits one by one in a row, ways written out and held against each other by their sizes.
type model []byte

func (m model) number(n, width int) model {
	for k := range width {
		m = append(m, byte(n>>k&1))
	}
	return m
}

// symbol: its code is counted up from the first one of its length.
func (m model) symbol(lengths []int, symbol int) model {
	code := 0
	for length := 1; length < lengths[symbol]; length++ {
		for _, l := range lengths {
			if l == length {
				code++
			}
		}
		code *= 2
	}
	for _, l := range lengths[:symbol] {
		if l == lengths[symbol] {
			code++
		}
	}
	for k := lengths[symbol] - 1; k >= 0; k-- {
		m = append(m, byte(code>>k&1))
	}
	return m
}

// bytes: bits 0 behind the last one.
func (m model) bytes() []byte {
	b := make([]byte, (len(m)+7)/8)
	for k, bit := range m {
		b[k/8] += bit << (k % 8)
	}
	return b
}

func (m model) stored(last int, text []byte) model {
	m = m.number(last, 3)
	for len(m)%8 != 0 {
		m = append(m, 0)
	}
	m = m.number(len(text), 16).number(65535-len(text), 16)
	for _, c := range text {
		m = m.number(int(c), 8)
	}
	return m
}

// mark: a symbol of a block and its extra bits; or a distance.
type mark struct {
	far                  bool
	symbol, extra, width int
}

func marksOf(pieces []lz.Piece) []mark {
	lengths := []int{3, 4, 5, 6, 7, 8, 9, 10, 11, 13, 15, 17, 19, 23, 27, 31, 35, 43, 51, 59, 67, 83, 99, 115, 131, 163, 195, 227, 258}
	far := []int{1, 2, 3, 4, 5, 7, 9, 13, 17, 25, 33, 49, 65, 97, 129, 193, 257, 385, 513, 769, 1025, 1537, 2049, 3073, 4097, 6145, 8193, 12289, 16385, 24577}
	above := func(bases []int, n int) int {
		s := len(bases) - 1
		for bases[s] > n {
			s--
		}
		return s
	}
	var l []mark
	for _, p := range pieces {
		if p.Len == 0 {
			l = append(l, mark{symbol: int(p.Byte)})
			continue
		}
		s := above(lengths, p.Len)
		width := 0
		if s >= 8 && s < 28 {
			width = s/4 - 1
		}
		l = append(l, mark{false, 257 + s, p.Len - lengths[s], width})
		s = above(far, p.Dist)
		l = append(l, mark{true, s, p.Dist - far[s], max(0, s/2-1)})
	}
	return append(l, mark{symbol: 256})
}

func (m model) coded(marks []mark, literals, distances []int) model {
	known := map[mark]model{}
	for _, x := range marks {
		s := mark{far: x.far, symbol: x.symbol}
		if known[s] == nil && x.far {
			known[s] = model{}.symbol(distances, x.symbol)
		} else if known[s] == nil {
			known[s] = model{}.symbol(literals, x.symbol)
		}
		m = append(m, known[s]...).number(x.extra, x.width)
	}
	return m
}

func (m model) fixed(last int, marks []mark) model {
	literals := slices.Concat(slices.Repeat([]int{8}, 144), slices.Repeat([]int{9}, 112), slices.Repeat([]int{7}, 24), slices.Repeat([]int{8}, 8))
	return m.number(last, 1).number(1, 2).coded(marks, literals, slices.Repeat([]int{5}, 32))
}

func lengthsOf(counts []int, limit int) []int {
	l, e := huff.Lengths(counts, limit)
	if e != api.OK {
		panic(e)
	}
	return l
}

// runsOf: of lengths: symbol, extra bits, how many.
func runsOf(row []int) [][3]int {
	var l [][3]int
	for k := 0; k < len(row); {
		n := k
		for n < len(row) && row[n] == row[k] {
			n++
		}
		n -= k
		switch {
		case row[k] == 0 && n > 138:
			l, k = append(l, [3]int{18, 127, 7}), k+138
		case row[k] == 0 && n > 10:
			l, k = append(l, [3]int{18, n - 11, 7}), k+n
		case row[k] == 0 && n > 2:
			l, k = append(l, [3]int{17, n - 3, 3}), k+n
		case row[k] == 0 || k == 0 || row[k] != row[k-1] || n < 3:
			l, k = append(l, [3]int{row[k], 0, 0}), k+1
		case n > 6:
			l, k = append(l, [3]int{16, 3, 2}), k+6
		default:
			l, k = append(l, [3]int{16, n - 3, 2}), k+n
		}
	}
	return l
}

func (m model) dynamic(last int, marks []mark) model {
	literals, distances := make([]int, 286), make([]int, 30)
	for _, x := range marks {
		if x.far {
			distances[x.symbol]++
		} else {
			literals[x.symbol]++
		}
	}
	literals, distances = lengthsOf(literals, 15), lengthsOf(distances, 15)
	for literals[len(literals)-1] == 0 {
		literals = literals[:len(literals)-1]
	}
	for len(distances) > 1 && distances[len(distances)-1] == 0 {
		distances = distances[:len(distances)-1]
	}
	told := runsOf(slices.Concat(literals, distances))
	counts := make([]int, 19)
	for _, r := range told {
		counts[r[0]]++
	}
	lengths := lengthsOf(counts, 7)
	var first []int
	for _, s := range []int{16, 17, 18, 0, 8, 7, 9, 6, 10, 5, 11, 4, 12, 3, 13, 2, 14, 1, 15} {
		first = append(first, lengths[s])
	}
	for len(first) > 4 && first[len(first)-1] == 0 {
		first = first[:len(first)-1]
	}
	m = m.number(last, 1).number(2, 2).number(len(literals)-257, 5).number(len(distances)-1, 5).number(len(first)-4, 4)
	for _, l := range first {
		m = m.number(l, 3)
	}
	for _, r := range told {
		m = m.symbol(lengths, r[0]).number(r[1], r[2])
	}
	return m.coded(marks, literals, distances)
}

// ways: the block, behind what is there, in each of its ways.
func (m model) ways(last int, text []byte, pieces []lz.Piece) [3]model {
	marks := marksOf(pieces)
	return [3]model{slices.Clone(m).stored(last, text), slices.Clone(m).fixed(last, marks), slices.Clone(m).dynamic(last, marks)}
}

func modelPieces(text []byte, level int) []lz.Piece {
	l, e := lz.Pieces(text, 32768, []int{0, 4, 8, 16, 32, 64, 128, 256, 512, 1024}[level])
	if e != api.OK {
		panic(e)
	}
	return l
}

// blocks: of a text. Beside them stands how many bits each way of each block takes.
func (m model) blocks(text []byte, level int, last int) (model, [][3]int) {
	pieces := modelPieces(text, level)
	var sizes [][3]int
	for begun := false; !begun || len(pieces) > 0; begun = true {
		n, size := 0, 0
		for _, p := range pieces {
			if level == 0 && size == 30000 || level > 0 && (n == 8192 || size > 30000) {
				break
			}
			n++
			size += max(1, p.Len)
		}
		this := 0
		if n == len(pieces) {
			this = last
		}
		if level == 0 {
			m = m.stored(this, text[:size])
		} else {
			ways := m.ways(this, text[:size], pieces[:n])
			sizes = append(sizes, [3]int{len(ways[0]) - len(m), len(ways[1]) - len(m), len(ways[2]) - len(m)})
			m = slices.MinFunc(ways[:], func(a, b model) int { return len(a) - len(b) }) // of equal ones the first
		}
		text, pieces = text[size:], pieces[n:]
	}
	return m, sizes
}

// compare: the program with the model; chapter 5's decoder and the library read what came.
func compare(t *testing.T, text []byte, level int) [][3]int {
	t.Helper()
	before := slices.Clone(text)
	b, e := Deflate(text, level)
	if !bytes.Equal(text, before) {
		t.Fatalf("%.60q at level %d: is changed", before, level)
	}
	m, sizes := model{}.blocks(text, level, 1)
	if want := m.bytes(); e != api.OK || !bytes.Equal(b, want) {
		t.Fatalf("%.60q (%d) at level %d: % .60x (%d), %d, not % .60x (%d)", text, len(text), level, b, len(b), e, want, len(want))
	}
	readBack(t, b, text)
	return sizes
}

// readBack: a whole stream, all of which is used.
func readBack(t *testing.T, b, text []byte) {
	t.Helper()
	out, used, e := inflate.Inflate(b, len(text))
	if e != api.OK || used != len(b) || !bytes.Equal(out, text) {
		t.Fatalf("% .60x (%d): %d bytes of %d, %d, %d", b, len(b), len(out), len(text), used, e)
	}
	if out, err := io.ReadAll(flate.NewReader(bytes.NewReader(b))); err != nil || !bytes.Equal(out, text) {
		t.Fatalf("% .60x (%d): the library: %d bytes of %d, %v", b, len(b), len(out), len(text), err)
	}
}

// someText: of few letters or of many, with copies of what stands ahead.
func someText(r *rand.Rand, size int) []byte {
	letters, first, often := 1+r.Intn(1<<r.Intn(9)), r.Intn(256), r.Intn(8)
	b := make([]byte, 0, size)
	for len(b) < size {
		if n := 1 + r.Intn(300); r.Intn(8) < often && n < len(b) {
			from := r.Intn(len(b) - n)
			b = append(b, b[from:from+n]...)
		} else {
			b = append(b, byte(first+r.Intn(letters)))
		}
	}
	return b[:size]
}

// plain: a text in which no three bytes come twice, so that it has no copies: of at most 65536 bytes.
func plain(size int) []byte {
	b := make([]byte, 0, size+1)
	for k := 0; len(b) < size; k++ {
		b = append(b, byte(k>>8), byte(k))
	}
	return b[:size]
}
