package deflate

import (
	"bytes"
	"math/rand"
	"slices"
	"testing"

	"gatehouse/inflate"
	"gatehouse/lz"
)

// kindsAre: those of a text's blocks.
func kindsAre(t *testing.T, text []byte, level int, want ...int) {
	t.Helper()
	var kinds []int
	for _, b := range blocksOfAnswer(t, text, level) {
		kinds = append(kinds, b.Kind)
	}
	if !slices.Equal(kinds, want) {
		t.Errorf("%.60q (%d) at level %d: kinds %d, not %d", text, len(text), level, kinds, want)
	}
}

// sparse: so many bytes above 143, none twice, and with such gaps that telling their lengths takes long.
func sparse(n int) []byte {
	var b []byte
	for _, k := range rand.New(rand.NewSource(20)).Perm(112)[:n] {
		b = append(b, byte(144+k))
	}
	return b
}

// Each byte above 143 takes one bit more by fixed codes than by itself; 30 of them make up for a stored block's head.
func TestP602StoredOrFixed(t *testing.T) {
	for level := 1; level < 10; level++ {
		kindsAre(t, sparse(29), level, 1)
		kindsAre(t, sparse(30), level, 0) // equally many bits
		kindsAre(t, sparse(31), level, 0)
	}
}

// The fewer bits there are up to the next whole byte, the earlier a block is stored.
func TestP602StoredBegins(t *testing.T) {
	for begin := range 24 {
		ahead := []int{5, 4, 3, 2, 1, 0, 7, 6}[begin%8]
		for n, want := range map[int]int{24 + ahead: 1, 25 + ahead: 0} {
			text := sparse(n)
			b := block{text: text, pieces: modelPieces(text, 0), ways: allWays, begin: begin}
			if size := b.size(0); size != 35+ahead+8*n || b.best() != want {
				t.Errorf("%d bytes from bit %d on: %d bits, way %d", n, begin, size, b.best())
			}
		}
	}
	for more := range 8 {
		text := plain(8192 + more)
		for n := 24; n < 33; n++ {
			compare(t, append(text[:8192:8192], sparse(n)...), 6)
		}
	}
}

// waysAre: each way hands on the numbers of the model's, and its size is told as theirs.
func waysAre(t *testing.T, b block) {
	t.Helper()
	ways := model(make([]byte, b.begin)).ways(b.last, b.text, b.pieces)
	for way, want := range ways {
		var m model
		b.tell(way, func(n, width int) { m = m.number(n, width) })
		if !bytes.Equal(m, want[b.begin:]) || b.size(way) != len(m) {
			t.Fatalf("%d pieces, from bit %d on: way %d has %d bits (%d), not %d", len(b.pieces), b.begin, way, len(m), b.size(way), len(want)-b.begin)
		}
	}
}

func TestP602Ways(t *testing.T) {
	r := rand.New(rand.NewSource(24))
	for range 500 {
		b := block{text: someText(r, r.Intn(100)), last: r.Intn(2), begin: r.Intn(30), ways: allWays}
		letters, lengths, far := 1+r.Intn(256), 1+r.Intn(256), 1+r.Intn(1<<r.Intn(16))
		for range r.Intn(1 << r.Intn(11)) {
			p := lz.Piece{Byte: byte(r.Intn(letters))}
			if r.Intn(3) == 0 {
				p = lz.Piece{Len: 3 + r.Intn(lengths), Dist: 1 + r.Intn(far)}
			}
			b.pieces = append(b.pieces, p)
		}
		waysAre(t, b)
	}
}

// uneven: pieces whose symbols of lengths (with that of the end), and of distances, would have codes of more than 15 bits, were there no limit.
func uneven() []lz.Piece {
	var l []lz.Piece
	for k, n, next := 0, 1, 2; k < 18; k, n, next = k+1, next, n+next {
		length, _ := lz.BaseLength(257 + k)
		dist, _ := lz.BaseDistance(k)
		l = append(l, slices.Repeat([]lz.Piece{{Len: length, Dist: dist}}, n)...)
	}
	return l
}

func TestP602LongestCodes(t *testing.T) {
	b := block{pieces: uneven(), ways: allWays}
	literals, distances := b.lengths()
	if slices.Max(literals) != 15 || slices.Max(distances) != 15 {
		t.Error(literals, distances)
	}
	waysAre(t, b)
}

func TestP602Kinds(t *testing.T) {
	kindsAre(t, nil, 6, 1)
	kindsAre(t, []byte("a"), 1, 1)
	kindsAre(t, plain(8192), 6, 2)
	noise := make([]byte, 9000)
	r := rand.New(rand.NewSource(21))
	for k := range noise {
		noise[k] = byte(r.Intn(256))
	}
	kindsAre(t, noise[:8000], 6, 0)
	kindsAre(t, append(noise[:8192:8192], "and some"...), 1, 0, 1)
}

// Texts in which two ways take equally many bits, and the third one not fewer: compare says that the first one is taken.
func TestP602EqualWays(t *testing.T) {
	r := rand.New(rand.NewSource(22))
	ties := map[[2]int]int{}
	for range 2000 {
		for _, s := range compare(t, tieText(r), 1+r.Intn(9)) {
			for a := range 3 {
				for b := range a {
					if s[a] == s[b] && s[a] == min(s[0], s[1], s[2]) {
						ties[[2]int{b, a}]++
					}
				}
			}
		}
	}
	for _, pair := range [][2]int{{0, 1}, {0, 2}, {1, 2}} {
		if ties[pair] == 0 {
			t.Error("no text in which these are equal:", pair)
		}
	}
}

// tieText: near to where the ways take equally many bits: of low bytes and high ones, not all of them as often.
func tieText(r *rand.Rand) []byte {
	size, letters, low := r.Intn(220), 1+r.Intn(256), r.Intn(256)
	b := make([]byte, size)
	for k := range b {
		b[k] = byte(low + min(r.Intn(letters), r.Intn(letters)))
	}
	return b
}

// Only the last block is said to be it: else the decoder would end ahead of the others.
func TestP602Last(t *testing.T) {
	text := slices.Concat(plain(40000), make([]byte, 100000))
	for level := range 10 {
		b, _ := Deflate(text, level)
		if l, e := inflate.Blocks(b, len(text)); e != 0 || len(l) < 5 {
			t.Errorf("level %d: %d blocks, %d", level, len(l), e)
		}
	}
}
