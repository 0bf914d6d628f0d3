package deflate

import (
	"bytes"
	"math"
	"math/rand"
	"slices"
	"strings"
	"testing"

	"gatehouse/api"
	"gatehouse/inflate"
	"gatehouse/lz"
)

func TestP602Examples(t *testing.T) {
	for _, c := range []struct {
		text  string
		level int
		want  []byte
	}{
		{"", 6, []byte{3, 0}},
		{"", 0, []byte{1, 0, 0, 255, 255}},
		{"abc", 6, []byte{75, 76, 74, 6, 0}},
		{"abc", 0, []byte{1, 3, 0, 252, 255, 97, 98, 99}},
		{"aaaaa", 6, []byte{75, 4, 1, 0}},
	} {
		if b, e := Deflate([]byte(c.text), c.level); !bytes.Equal(b, c.want) || e != api.OK {
			t.Errorf("%q at level %d: %d, %d, not %d", c.text, c.level, b, e, c.want)
		}
	}
}

func TestP602Wrong(t *testing.T) {
	great := make([]byte, api.MaxBytes/2+1)
	for _, level := range []int{-1, 10, 1 << 32, math.MinInt, math.MaxInt} {
		for _, text := range [][]byte{nil, []byte("abc"), great} {
			if b, e := Deflate(text, level); len(b) != 0 || e != api.ErrArg {
				t.Errorf("%d bytes at level %d: % .60x, %d", len(text), level, b, e)
			}
		}
	}
	for level := range 10 {
		if b, e := Deflate(great, level); len(b) != 0 || e != api.ErrSize {
			t.Errorf("level %d: % .60x, %d", level, b, e)
		}
		compare(t, great[:len(great)-1], level)
	}
}

// A text at random is held against the model at each level.
func TestP602SomeTexts(t *testing.T) {
	r := rand.New(rand.NewSource(1))
	for size := range 100 {
		for range 10 {
			compare(t, someText(r, size), r.Intn(10))
		}
	}
	for range 300 {
		compare(t, someText(r, r.Intn(1<<r.Intn(16))), r.Intn(10))
	}
	for level := range 10 {
		compare(t, someText(r, 40000+r.Intn(60000)), level)
	}
}

// Of just so many candidates the last one is looked at, of one more it is not.
func TestP602Depths(t *testing.T) {
	for level, depth := range []int{0, 4, 8, 16, 32, 64, 128, 256, 512, 1024} {
		for nearer := depth - 1; level > 0 && nearer <= depth; nearer++ {
			text := []byte("abcdefgh")
			for k := range nearer {
				text = append(text, 'a', 'b', 'c', byte('A'+k%7), byte(128+k%100))
			}
			text = append(text, "!abcdefgh"...)
			if l := blocksOfAnswer(t, text, level); l[0].Kind == 0 {
				t.Errorf("level %d: stored", level)
			}
			fewer, _ := lz.Pieces(text, 32768, nearer)
			more, _ := lz.Pieces(text, 32768, nearer+1)
			if slices.Equal(fewer, more) {
				t.Errorf("%d candidates and one more: the same pieces", nearer)
			}
		}
	}
}

func blocksOfAnswer(t *testing.T, text []byte, level int) []inflate.Block {
	t.Helper()
	compare(t, text, level)
	b, _ := Deflate(text, level)
	l, e := inflate.Blocks(b, len(text))
	if e != api.OK {
		t.Fatal(e)
	}
	return l
}

func sizesAre(t *testing.T, text []byte, level int, want ...int) {
	t.Helper()
	var sizes []int
	for _, b := range blocksOfAnswer(t, text, level) {
		sizes = append(sizes, b.Size)
	}
	if !slices.Equal(sizes, want) {
		t.Errorf("%.20q (%d) at level %d: blocks of %d bytes, not %d", text, len(text), level, sizes, want)
	}
}

// A block is full with 8192 pieces.
func TestP602FullOfPieces(t *testing.T) {
	for level := 1; level < 10; level++ {
		sizesAre(t, nil, level, 0)
		sizesAre(t, plain(1), level, 1)
		sizesAre(t, plain(8191), level, 8191)
		sizesAre(t, plain(8192), level, 8192)
		sizesAre(t, plain(8193), level, 8192, 1)
	}
	sizesAre(t, plain(16384), 6, 8192, 8192)
	sizesAre(t, plain(16385), 6, 8192, 8192, 1)
	// The last piece is a copy.
	text := append(plain(8191), plain(300)...)
	sizesAre(t, text[:8191+258], 6, 8449)
	sizesAre(t, text, 6, 8449, 42)
}

// A block is full with more than 30000 bytes: its last piece may go beyond them.
func TestP602FullOfBytes(t *testing.T) {
	as := func(n int) []byte { return bytes.Repeat([]byte("a"), n) }
	for level := 1; level < 10; level++ {
		sizesAre(t, as(29929), level, 29929)
		sizesAre(t, as(30000), level, 30000)
		sizesAre(t, append(as(30000), "b"...), level, 30001)
		sizesAre(t, append(as(30000), "bc"...), level, 30001, 1)
		sizesAre(t, append(as(29999), "bc"...), level, 30001)
		sizesAre(t, append(as(29999), "bcd"...), level, 30001, 1)
		sizesAre(t, as(30001), level, 30001)
		sizesAre(t, as(30187), level, 30187)
		sizesAre(t, as(30188), level, 30187, 1)
	}
	// The greatest block: 30000 bytes and then a copy of 258.
	first := append(plain(300), as(29700)...)
	sizesAre(t, append(slices.Concat(first, plain(258)), "b"...), 6, 30258, 1)
	sizesAre(t, append(slices.Concat(first, []byte("a"), plain(258)), "b"...), 6, 30001, 259)
}

// Of level 0 the blocks are of just 30000 bytes, whatever they are.
func TestP607Sizes(t *testing.T) {
	r := rand.New(rand.NewSource(3))
	sizesAre(t, nil, 0, 0)
	for _, text := range [][]byte{plain(60001), bytes.Repeat([]byte("a"), 60001), someText(r, 60001)} {
		sizesAre(t, text[:1], 0, 1)
		sizesAre(t, text[:8193], 0, 8193)
		sizesAre(t, text[:29999], 0, 29999)
		sizesAre(t, text[:30000], 0, 30000)
		sizesAre(t, text[:30001], 0, 30000, 1)
		sizesAre(t, text[:60000], 0, 30000, 30000)
		sizesAre(t, text, 0, 30000, 30000, 1)
	}
}

func TestP607Stored(t *testing.T) {
	r := rand.New(rand.NewSource(4))
	for _, size := range []int{0, 1, 2, 8192, 29999, 30000, 30001, 59999, 60000, 60001, api.MaxBytes / 2} {
		for range 2 {
			text := someText(r, size)
			for _, b := range blocksOfAnswer(t, text, 0) {
				if b.Kind != 0 {
					t.Errorf("%d bytes: a block of kind %d", size, b.Kind)
				}
			}
			b, _ := Deflate(text, 0)
			if want := size + 5*max(1, (size+29999)/30000); len(b) != want {
				t.Errorf("%d bytes: %d, not %d", size, len(b), want)
			}
		}
	}
}

func TestP604ThereAndBack(t *testing.T) {
	r := rand.New(rand.NewSource(5))
	texts := [][]byte{nil, {}, {0}, {255}, bytes.Repeat([]byte{0}, 1000), plain(65536), []byte(strings.Repeat("the quick brown fox. ", 3000))}
	for range 200 {
		texts = append(texts, someText(r, r.Intn(1<<r.Intn(17))))
	}
	for _, text := range texts {
		level := r.Intn(10)
		b, e := Deflate(text, level)
		if e != api.OK {
			t.Fatal(e)
		}
		readBack(t, b, text)
	}
	for level := range 10 {
		text := someText(r, api.MaxBytes/2)
		b, _ := Deflate(text, level)
		readBack(t, b, text)
	}
}

func TestP606NeverMuchGreater(t *testing.T) {
	r := rand.New(rand.NewSource(6))
	noise := make([]byte, api.MaxBytes/2)
	for k := range noise {
		noise[k] = byte(r.Intn(256))
	}
	// Noise whose blocks have copies that are hardly worth it.
	copies := slices.Clone(noise)
	for k := 40000; k+10 < len(copies); k += 6 + r.Intn(4) {
		copy(copies[k:k+3], copies[k-32000+r.Intn(1000):])
	}
	for _, text := range [][]byte{noise, copies, plain(65536)} {
		for _, size := range []int{0, 1, 2, 20, 21, 30, 31, 999, 1000, 8192, 8193, 22000, 22001, 65536, len(text)} {
			size = min(size, len(text))
			for _, level := range []int{0, 1, 9} {
				b, e := Deflate(text[:size], level)
				if most := size + 5*((size+21999)/22000) + size/1000 + 6; len(b) > most || e != api.OK {
					t.Errorf("%d bytes at level %d: %d, more than %d, %d", size, level, len(b), most, e)
				}
			}
		}
	}
}

func TestP601Pure(t *testing.T) {
	r := rand.New(rand.NewSource(7))
	for range 50 {
		text := someText(r, r.Intn(3000))
		level := r.Intn(10)
		one, _ := Deflate(text, level)
		want := slices.Clone(one)
		two, _ := Deflate(text, level)
		for k := range one[:cap(one)] {
			one[:cap(one)][k] = 77
		}
		if !bytes.Equal(two, want) {
			t.Fatal("what was answered hangs on another answer")
		}
		clear(text)
		if !bytes.Equal(two, want) {
			t.Fatal("what was answered hangs on the text")
		}
	}
	// The room behind a text is its caller's.
	room := []byte("abcabcabcabcabc")
	b, e := Deflate(room[:6], 6)
	if want, _ := Deflate([]byte("abcabc"), 6); e != api.OK || !bytes.Equal(b, want) || string(room) != "abcabcabcabcabc" {
		t.Errorf("% x, %d, %q", b, e, room)
	}
	one, _ := Deflate(nil, 6)
	two, _ := Deflate([]byte{}, 6)
	if !bytes.Equal(one, two) {
		t.Errorf("% x, % x", one, two)
	}
}
