package deflate

import (
	"gatehouse/bits"
	"gatehouse/inflate"
	"gatehouse/lz"
)

const (
	window     = 32768
	mostPieces = 8192  // of a block
	mostBytes  = 30000 // of a block; its last copy may reach beyond them

	// How many of a block's ways may be taken: the first one alone, or all.
	onlyStored = 1
	allWays    = 3

	// end: the symbol behind a block's last one.
	end = 256
)

// putter: is handed a block's numbers, each with its width in bits.
type putter func(n, width int)

// block: some pieces, and the bytes that they stand for.
type block struct {
	pieces []lz.Piece
	text   []byte
	last   int // 1: it is the last one
	ways   int // how many of them may be taken
	begin  int // bits ahead of it
}

// blocksOf: a text's blocks. Of no bytes there is one, too, as a stream needs an end.
func blocksOf(text []byte, level int, last bool) []block {
	ways := allWays
	if level == 0 {
		ways = onlyStored
	}
	var l []block
	for pieces := piecesOf(text, level); len(pieces) > 0 || len(l) == 0; {
		n, size := fill(pieces, level)
		l = append(l, block{pieces: pieces[:n], text: text[:size], ways: ways})
		pieces, text = pieces[n:], text[size:]
	}
	if last {
		l[len(l)-1].last = 1
	}
	return l
}

func piecesOf(text []byte, level int) []lz.Piece {
	if level == 0 {
		l := make([]lz.Piece, len(text))
		for k, c := range text {
			l[k].Byte = c
		}
		return l
	}
	l, _ := lz.Pieces(text, window, 2<<level) // of a level's depth, and of at most MaxBytes / 2 bytes, there is no error
	return l
}

// fill: how many pieces the first block has, and how many bytes they are.
func fill(pieces []lz.Piece, level int) (n, size int) {
	for n < len(pieces) && !full(n, size, level) {
		size += max(pieces[n].Len, 1)
		n++
	}
	return n, size
}

func full(pieces, size, level int) bool {
	if level == 0 {
		return size == mostBytes
	}
	return pieces == mostPieces || size > mostBytes
}

// putOn: by the way with the fewest bits.
func (b block) putOn(w *bits.Writer) {
	b.begin = w.Bits()
	b.tell(b.best(), func(n, width int) {
		w.Put(n, width) // a Writer has room for MaxBytes, and a text is half of that at most
	})
}

// best: of those that take equally many bits the first one.
func (b block) best() int {
	best, fewest := 0, b.size(0)
	for way := 1; way < b.ways; way++ {
		if size := b.size(way); size < fewest {
			best, fewest = way, size
		}
	}
	return best
}

// size: how many bits it takes.
func (b block) size(way int) int {
	sum := 0
	b.tell(way, func(_, width int) { sum += width })
	return sum
}

// tell: hands on all of its numbers, those of this way.
func (b block) tell(way int, put putter) {
	ways := [allWays]func(block, putter){block.stored, block.fixed, block.dynamic}
	put(b.last, 1)
	put(way, 2)
	ways[way](b, put)
}

func (b block) stored(put putter) {
	ahead := b.begin + 3
	put(0, (8-ahead%8)%8)
	put(len(b.text), 16)
	put(1<<16-1-len(b.text), 16)
	for _, c := range b.text {
		put(int(c), 8)
	}
}

func (b block) fixed(put putter) {
	literals, distances := inflate.Fixed()
	b.coded(literals, distances, put)
}

func (b block) dynamic(put putter) {
	literals, distances := b.lengths()
	putHead(literals, distances, put)
	b.coded(literals, distances, put)
}

// coded: the symbols, by codes of these lengths.
func (b block) coded(literals, distances []int, put putter) {
	b.symbols(coderOf(literals, put), coderOf(distances, put))
}

// symbols: each one is handed, with how many extra bits it has and what they are, to the one that it is for.
func (b block) symbols(literal, distance func(symbol, width, extra int)) {
	for _, p := range b.pieces {
		if p.Len == 0 {
			literal(int(p.Byte), 0, 0)
			continue
		}
		literal(lz.Length(p.Len))
		distance(lz.Distance(p.Dist))
	}
	literal(end, 0, 0)
}
