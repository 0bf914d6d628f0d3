package inflate

import (
	"bytes"
	"math"
	"math/rand"
	"slices"
	"strings"
	"testing"

	"gatehouse/api"
	"gatehouse/bits"
	"gatehouse/lz"
)

func TestP502Examples(t *testing.T) {
	inflates(t, []byte{1, 3, 0, 252, 255, 97, 98, 99}, 100, "abc", 8)
	inflates(t, []byte{3, 0}, 100, "", 2)
	inflates(t, []byte{75, 76, 74, 6, 0}, 100, "abc", 5)
	refuses(t, []byte{7}, 100, api.ErrBlock)
	refuses(t, []byte{1, 3, 0}, 100, api.ErrEnd)
	refuses(t, nil, 100, api.ErrEnd)
	refuses(t, []byte{}, 0, api.ErrEnd)
}

func TestP502WrongArguments(t *testing.T) {
	fine := []byte("\x01\x03\x00\xfc\xffabc")
	great := make([]byte, api.MaxBytes+1)
	copy(great, fine)
	for _, most := range []int{-1, api.MaxBytes + 1, 1 << 32, math.MinInt, math.MaxInt} {
		for _, b := range [][]byte{nil, fine, {7}, great} {
			refuses(t, b, most, api.ErrArg)
		}
	}
	for _, most := range []int{0, 3, api.MaxBytes} {
		refuses(t, great, most, api.ErrSize)
	}
	inflates(t, great[:api.MaxBytes], 3, "abc", 8)
	inflates(t, great[:api.MaxBytes], api.MaxBytes, "abc", 8)
	great[0] = 7
	refuses(t, great, 3, api.ErrSize)
	refuses(t, great[:api.MaxBytes], 3, api.ErrBlock)
}

func TestP502Kinds(t *testing.T) {
	for last := range 2 {
		begin(t).block(last, 3).fails(0, api.ErrBlock)
		begin(t).stored(0, "a").block(last, 3).fails(1, api.ErrBlock)
		begin(t).block(0, 1).text("a").fixed(256).block(last, 3).fails(1, api.ErrBlock)
		for kind := range 3 {
			begin(t).block(last, kind).ends()
		}
	}
	begin(t).stored(0, "a").ends() // none was the last one
	begin(t).stored(0, "").ends()
	begin(t).block(0, 1).fixed(256).ends()
	inflates(t, begin(t).stored(0, "a").stored(1, "b").block(1, 3).Bytes(), 2, "ab", 12)
	// The kind needs two bits: of three blocks of 10 bits each there are two left, of one of 9 more there is one.
	none := begin(t).block(0, 1).fixed(256).block(0, 1).fixed(256).block(0, 1).fixed(256)
	none.put(3, 2).ends()
	one := begin(t).block(0, 1).fixed(256).block(0, 1).fixed(256).block(0, 1).fixed(200, 256)
	one.put(1, 1).ends()
	one.put(3, 2).fails(1, api.ErrBlock)
}

func TestP502Stored(t *testing.T) {
	begin(t).stored(1, "").is("")
	begin(t).stored(1, "abc").is("abc")
	begin(t).stored(0, "").stored(0, "").stored(1, "a").is("a")
	begin(t).stored(0, "abc").stored(1, "def").is("abcdef")
	begin(t).stored(1, strings.Repeat("\x00\xff", 32767)+"\x07").is(strings.Repeat("\x00\xff", 32767) + "\x07")
	begin(t).stored(0, a(65535)).stored(1, a(65535)).is(a(131070))
	// What stands in the bits of an Align counts for nothing; an Align goes from wherever the bits are.
	inflates(t, []byte("\xf9\x03\x00\xfc\xffabc"), 3, "abc", 8)
	for n := range 9 {
		m := begin(t).block(0, 1)
		for range n {
			m.fixed(200) // of 9 bits
		}
		m.fixed(256).stored(1, "abc").is(strings.Repeat("\xc8", n) + "abc")
	}
}

func TestP502StoredThatAreWrong(t *testing.T) {
	for _, c := range []struct{ n, turned int }{{0, 0}, {3, 0}, {3, 65533}, {3, 65531}, {0, 65534}, {65535, 65535}, {65535, 1}, {255, 255}, {0, 0x7fff}} {
		begin(t).head(1, c.n, c.turned).fails(api.MaxBytes, api.ErrBlock)
		begin(t).head(1, c.n, c.turned).fails(0, api.ErrBlock)
	}
	// Too much is told ahead of what is missing, but not ahead of the second number.
	refuses(t, begin(t).head(1, 4, 65531).Bytes(), 3, api.ErrSize)
	refuses(t, begin(t).head(1, 4, 65531).Bytes(), 4, api.ErrEnd)
	refuses(t, begin(t).head(1, 4, 65531).Bytes()[:4], 3, api.ErrEnd)
	refuses(t, begin(t).head(1, 4, 65530).Bytes()[:4], 3, api.ErrEnd)
	refuses(t, begin(t).stored(0, "ab").stored(0, "cd").Bytes(), 3, api.ErrSize)
	refuses(t, begin(t).stored(0, "ab").head(1, 2, 65533).Bytes(), 3, api.ErrSize)
	refuses(t, begin(t).stored(0, "ab").head(1, 1, 65534).Bytes(), 3, api.ErrEnd)
	whole := begin(t).stored(1, "abc").Bytes()
	for n := range whole {
		refuses(t, whole[:n], 3, api.ErrEnd)
	}
}

func TestP502FixedLiterals(t *testing.T) {
	all := make([]byte, 256)
	for k := range all {
		all[k] = byte(k)
		begin(t).block(1, 1).fixed(k, 256).is(string(all[k : k+1]))
	}
	begin(t).block(1, 1).text(string(all)).fixed(256).is(string(all))
	begin(t).block(1, 1).fixed(256).is("")
	refuses(t, begin(t).block(1, 1).text("ab").Bytes(), 1, api.ErrSize)
	refuses(t, begin(t).block(1, 1).text("ab").fixed(286).Bytes(), 1, api.ErrSize)
	refuses(t, begin(t).block(1, 1).text("ab").fixed(256).Bytes(), 0, api.ErrSize)
}

func TestP502Lengths(t *testing.T) {
	for n := 3; n < 259; n++ {
		begin(t).block(1, 1).text("a").again(n, 1).fixed(256).is(a(1 + n))
	}
	// 258 has a second name: the symbol 284 and all of its extra bits.
	begin(t).block(1, 1).text("a").fixed(284).put(31, 5).dist(0, 0, 0).fixed(256).is(a(259))
	for _, symbol := range []int{286, 287} {
		begin(t).block(1, 1).text("a").fixed(symbol).fails(api.MaxBytes, api.ErrCode)
		begin(t).block(1, 1).fixed(symbol).fails(0, api.ErrCode)
	}
	begin(t).block(1, 1).text("a").fixed(284).put(31, 5).ends()
	begin(t).block(1, 1).text("a").fixed(284).put(1, 1).ends()
}

func TestP502Distances(t *testing.T) {
	r := rand.New(rand.NewSource(3))
	back := someText(r, 32770)
	l := []int{1, 2, 3, 4, 5, 6, 7, 8, 9, 24577, 32767, 32768}
	for symbol := range 30 {
		base, n := lz.BaseDistance(symbol)
		l = append(l, base, base+1<<n-1, base+r.Intn(1<<n))
	}
	for _, dist := range l {
		want := back[len(back)-dist:][:min(dist, 5)]
		want = (want + want + want + want + want)[:5]
		begin(t).stored(0, back).block(1, 1).again(5, dist).fixed(256).is(back + want)
	}
	for _, symbol := range []int{30, 31} {
		begin(t).stored(0, back).block(1, 1).fixed(257).dist(symbol, 0, 0).fails(api.MaxBytes, api.ErrCode)
		begin(t).block(1, 1).fixed(285).dist(symbol, 0, 0).fails(0, api.ErrCode)
	}
	begin(t).stored(0, back).block(1, 1).fixed(257).dist(29, 7, 3).ends()
}

func TestP502CopiesThatMayNotBe(t *testing.T) {
	for _, length := range []int{3, 4, 258} {
		begin(t).block(1, 1).again(length, 1).fails(api.MaxBytes, api.ErrBlock)
		begin(t).block(1, 1).text("a").again(length, 2).fails(api.MaxBytes, api.ErrBlock)
		begin(t).block(1, 1).text("a").again(length, 32768).fails(api.MaxBytes, api.ErrBlock)
		begin(t).stored(0, "abc").block(1, 1).again(length, 4).fails(api.MaxBytes, api.ErrBlock)
		begin(t).stored(0, a(32767)).block(1, 1).again(length, 32768).fails(api.MaxBytes, api.ErrBlock)
		// A distance that is too great is told ahead of a length that is.
		begin(t).block(1, 1).text("a").again(length, 2).fails(1, api.ErrBlock)
		begin(t).block(1, 1).text("a").again(length, 1).fails(length, api.ErrSize)
		begin(t).block(1, 1).text("a").again(length, 1).fails(1, api.ErrSize)
	}
	begin(t).stored(0, "abc").block(1, 1).again(3, 3).fixed(256).is("abcabc")
	// A length that is too great is not told ahead of its distance.
	refuses(t, begin(t).block(1, 1).text("abc\xc8").fixed(285).Bytes(), 4, api.ErrEnd) // 4 of the distance's 5 bits are there
	begin(t).block(1, 1).text("a").fixed(285).dist(30, 0, 0).fails(1, api.ErrCode)
}

func TestP503Blocks(t *testing.T) {
	blocks := func(m maker, most int, want ...Block) {
		t.Helper()
		if l, e := Blocks(m.Bytes(), most); !slices.Equal(l, want) || e != api.OK {
			t.Errorf("%v, %d, not %v", l, e, want)
		}
	}
	blocks(begin(t).stored(1, ""), 0, Block{})
	blocks(begin(t).stored(1, "abc"), 3, Block{0, 3})
	blocks(begin(t).stored(0, "a").stored(1, ""), 1, Block{0, 1}, Block{})
	blocks(begin(t).block(1, 1).fixed(256), 0, Block{1, 0})
	blocks(begin(t).block(0, 1).text("ab").again(258, 2).fixed(256).block(1, 1).again(3, 1).fixed(256), 263, Block{1, 260}, Block{1, 3})
	lengths := upTo256(1, 1)
	mixed := begin(t).rows(0, lengths, []int{0}).symbols(lengths, 0, 0, 256).stored(0, "x").block(0, 1).fixed(256)
	blocks(mixed.rows(1, lengths, []int{0}).symbols(lengths, 256).block(1, 3), 3, Block{2, 2}, Block{0, 1}, Block{1, 0}, Block{2, 0})
	refuses(t, mixed.Bytes(), 2, api.ErrSize)
	for _, s := range samples(t) {
		l, e := Blocks([]byte(s.stream), len(s.text))
		sum := 0
		for _, b := range l {
			sum += b.Size
			if b.Kind < 0 || b.Kind > 2 || b.Size < 0 {
				t.Errorf("% .60x: a block %v", s.stream, b)
			}
		}
		if e != api.OK || sum != len(s.text) || len(l) == 0 || l[0].Kind != int(s.stream[0]>>1&3) {
			t.Errorf("% .60x: %v, %d: %d bytes", s.stream, l, e, len(s.text))
		}
	}
}

func TestP503ManyBlocks(t *testing.T) {
	m := begin(t)
	for range 100000 {
		m.block(0, 1).fixed(256)
	}
	l, e := Blocks(m.stored(1, "a").Bytes(), 1)
	if len(l) != 100001 || l[0] != (Block{1, 0}) || l[100000] != (Block{0, 1}) || e != api.OK {
		t.Error(len(l), e)
	}
}

func TestP505NoMoreThanItNeeds(t *testing.T) {
	r := rand.New(rand.NewSource(5))
	for _, s := range samples(t) {
		b := []byte(s.stream)
		inflates(t, b, len(s.text), s.text, len(b))
		blocks, e := Blocks(b, len(s.text))
		if e != api.OK {
			t.Fatal(e)
		}
		for _, behind := range []string{"\x00", "\xff", "\x01\x00\x00\xff\xff", s.stream, someText(r, 1+r.Intn(5000))} {
			longer := append(slices.Clone(b), behind...)
			inflates(t, longer, len(s.text), s.text, len(b))
			if l, e := Blocks(longer, len(s.text)); !slices.Equal(l, blocks) || e != api.OK {
				t.Errorf("%v, %d, not %v", l, e, blocks)
			}
		}
		for less := 1; less <= len(b); less += 1 + less/4 {
			refuses(t, b[:len(b)-less], api.MaxBytes, api.ErrEnd)
		}
	}
}

func TestP506Most(t *testing.T) {
	r := rand.New(rand.NewSource(6))
	for _, s := range samples(t) {
		for _, most := range []int{len(s.text), len(s.text) + 1, len(s.text) + r.Intn(9999), api.MaxBytes} {
			inflates(t, []byte(s.stream), most, s.text, len(s.stream))
		}
		if n := len(s.text); n > 0 {
			for _, most := range []int{0, n / 2, r.Intn(n), n - 1} {
				refuses(t, []byte(s.stream), most, api.ErrSize)
			}
		}
	}
}

func TestP506AllBytesThatMayBe(t *testing.T) {
	m := begin(t).block(1, 1).text("a")
	for range 4064 {
		m.again(258, 1)
	}
	m.again(63, 1) // 1 + 4064 * 258 + 63 are 2^20
	refuses(t, maker{clone(t, m), t}.text("a").fixed(256).Bytes(), api.MaxBytes, api.ErrSize)
	refuses(t, maker{clone(t, m), t}.again(3, 1).fixed(256).Bytes(), api.MaxBytes, api.ErrSize)
	refuses(t, maker{clone(t, m), t}.fixed(256).Bytes(), api.MaxBytes-1, api.ErrSize)
	m.fixed(256)
	inflates(t, m.Bytes(), api.MaxBytes, a(api.MaxBytes), len(m.Bytes()))
}

// clone: all bits of a maker, in another Writer.
func clone(t *testing.T, m maker) *bits.Writer {
	t.Helper()
	w := bits.NewWriter()
	r := bits.NewReader(m.Bytes())
	for left := m.Bits(); left > 0; left -= 32 {
		n, e := r.Take(min(left, 32))
		if e != api.OK || w.Put(n, min(left, 32)) != api.OK {
			t.Fatal(e)
		}
	}
	return w
}

func TestP507StoredByHand(t *testing.T) {
	r := rand.New(rand.NewSource(8))
	for range 60 {
		text := someText(r, r.Intn(1<<r.Intn(18)))
		m, rest := begin(t), text
		for len(rest) > 65535 || len(rest) > 0 && r.Intn(4) > 0 {
			n := min(len(rest), r.Intn(65536))
			m.stored(0, rest[:n])
			rest = rest[n:]
		}
		m.stored(1, rest).is(text)
	}
}

func TestP507FixedByHand(t *testing.T) {
	r := rand.New(rand.NewSource(9))
	literals, distances := Fixed()
	for range 60 {
		var l []lz.Piece
		size := 0
		m := begin(t).block(1, 1)
		for range r.Intn(1500) {
			p := lz.Piece{Byte: byte(r.Intn(256))}
			if size > 0 && r.Intn(2) == 0 {
				p = lz.Piece{Len: 3 + r.Intn(256), Dist: 1 + r.Intn(min(size, 32768))}
			}
			l, size = append(l, p), size+max(p.Len, 1)
			if p.Len == 0 {
				m.symbols(literals, int(p.Byte))
				continue
			}
			symbol, n, extra := lz.Length(p.Len)
			m.symbols(literals, symbol).put(extra, n)
			symbol, n, extra = lz.Distance(p.Dist)
			m.symbols(distances, symbol).put(extra, n)
		}
		want, e := lz.Expand(l, api.MaxBytes)
		if e != api.OK {
			t.Fatal(e)
		}
		m.symbols(literals, 256).is(string(want))
	}
}

func TestP501SharesNothing(t *testing.T) {
	streams := [][]byte{begin(t).stored(1, "abc").Bytes(), begin(t).block(0, 1).text("abc").fixed(256).stored(1, "def").Bytes()}
	for _, b := range streams {
		room := append(slices.Clone(b), "behind it"...)
		before := slices.Clone(room)
		one, _, e := Inflate(room[:len(b)], 99)
		two, _, f := Inflate(room[:len(b)], 99)
		want := string(one)
		if len(one) == 0 || e != api.OK || f != api.OK {
			t.Fatal(one, e, f)
		}
		clear(one[:cap(one)])
		blocks, e := Blocks(room[:len(b)], 99)
		others, f := Blocks(room[:len(b)], 99)
		wanted := slices.Clone(blocks)
		if e != api.OK || f != api.OK {
			t.Fatal(e, f)
		}
		clear(blocks[:cap(blocks)])
		if !bytes.Equal(room, before) {
			t.Errorf("what was handed in is changed: % x", room)
		}
		clear(room)
		if string(two) != want || !slices.Equal(others, wanted) {
			t.Errorf("answers share memory: %q, %v", two, others)
		}
	}
}

func TestP501FixedSharesNothing(t *testing.T) {
	literals, distances := Fixed()
	others, far := Fixed()
	clear(literals[:cap(literals)])
	if others[0] != 8 || len(distances) != 32 || distances[0] != 5 {
		t.Error("two lists share memory")
	}
	clear(distances[:cap(distances)])
	if far[0] != 5 {
		t.Error("two answers share memory")
	}
	begin(t).block(1, 1).text("abc").fixed(256).is("abc")
}

// The same stream is the same, whatever was asked before it.
func TestP501Pure(t *testing.T) {
	for _, s := range samples(t) {
		Inflate([]byte{7}, 1)
		Inflate(begin(t).block(1, 1).fixed(286).Bytes(), 1)
		inflates(t, []byte(s.stream), api.MaxBytes, s.text, len(s.stream))
		inflates(t, []byte(s.stream), api.MaxBytes, s.text, len(s.stream))
	}
}
