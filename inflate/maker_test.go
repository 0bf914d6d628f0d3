package inflate

import (
	"bytes"
	"compress/flate"
	"maps"
	"math/rand"
	"slices"
	"strings"
	"testing"

	"gatehouse/api"
	"gatehouse/bits"
	"gatehouse/huff"
	"gatehouse/lz"
)

// maker: of streams, bit by bit.
type maker struct {
	*bits.Writer
	t *testing.T
}

func begin(t *testing.T) maker { return maker{bits.NewWriter(), t} }

func (m maker) put(n, bits int) maker {
	m.t.Helper()
	if e := m.Put(n, bits); e != api.OK {
		m.t.Fatalf("Put(%d, %d): %d", n, bits, e)
	}
	return m
}

// block: its first bits. last: 0 or 1.
func (m maker) block(last, kind int) maker {
	m.t.Helper()
	return m.put(last, 1).put(kind, 2)
}

// head: of a stored block.
func (m maker) head(last, n, turned int) maker {
	m.t.Helper()
	m.block(last, 0).Align()
	return m.put(n, 16).put(turned, 16)
}

func (m maker) stored(last int, text string) maker {
	m.t.Helper()
	m.head(last, len(text), 65535-len(text))
	if e := m.Raw([]byte(text)); e != api.OK {
		m.t.Fatal(e)
	}
	return m
}

// symbols: by codes of these lengths.
func (m maker) symbols(lengths []int, symbols ...int) maker {
	m.t.Helper()
	codes, e := huff.Codes(lengths)
	if e != api.OK {
		m.t.Fatal(lengths, e)
	}
	for _, s := range symbols {
		if e := huff.Put(m.Writer, codes, lengths, s); e != api.OK {
			m.t.Fatalf("Put of %d: %d", s, e)
		}
	}
	return m
}

// fixed: symbols by the fixed codes of RFC 1951, told by the first one of each length, not by the program's own lengths.
func (m maker) fixed(symbols ...int) maker {
	m.t.Helper()
	for _, s := range symbols {
		switch {
		case s < 144:
			m.put(bits.Reverse(0b00110000+s, 8), 8)
		case s < 256:
			m.put(bits.Reverse(0b110010000+s-144, 9), 9)
		case s < 280:
			m.put(bits.Reverse(s-256, 7), 7)
		default:
			m.put(bits.Reverse(0b11000000+s-280, 8), 8)
		}
	}
	return m
}

func (m maker) text(s string) maker {
	m.t.Helper()
	for i := range len(s) {
		m.fixed(int(s[i]))
	}
	return m
}

// dist: a distance by the fixed codes, and its extra bits.
func (m maker) dist(symbol, extra, bitsOf int) maker {
	m.t.Helper()
	return m.put(bits.Reverse(symbol, 5), 5).put(extra, bitsOf)
}

// again: a copy by the fixed codes.
func (m maker) again(length, dist int) maker {
	m.t.Helper()
	symbol, n, extra := lz.Length(length)
	m.fixed(symbol).put(extra, n)
	symbol, n, extra = lz.Distance(dist)
	return m.dist(symbol, extra, n)
}

// dynamic: a block's beginning, and the lengths of the symbols of lengths; those that are not in the map are 0.
func (m maker) dynamic(last, h, d, c int, of map[int]int) maker {
	m.t.Helper()
	m.block(last, 2).put(h, 5).put(d, 5).put(c, 4)
	for _, s := range []int{16, 17, 18, 0, 8, 7, 9, 6, 10, 5, 11, 4, 12, 3, 13, 2, 14, 1, 15}[:c+4] {
		m.put(of[s], 3)
	}
	return m
}

// even: lengths of the symbols of lengths that give each one a code.
func even() []int {
	return append(slices.Repeat([]int{5}, 6), slices.Repeat([]int{4}, 13)...)
}

// evenly: a dynamic block's beginning with these.
func (m maker) evenly(last, h, d int) maker {
	m.t.Helper()
	return m.toldBy(last, h, d, even())
}

func (m maker) toldBy(last, h, d int, lengths []int) maker {
	m.t.Helper()
	of := map[int]int{}
	for s, l := range lengths {
		of[s] = l
	}
	return m.dynamic(last, h, d, 15, of)
}

// row: symbols of lengths, by their even codes.
func (m maker) row(symbols ...int) maker {
	m.t.Helper()
	return m.symbols(even(), symbols...)
}

// zeros: so many lengths 0.
func (m maker) zeros(n int) maker {
	m.t.Helper()
	for n > 138 {
		m.row(18).put(127, 7)
		n -= 138
	}
	if n > 10 {
		return m.row(18).put(n-11, 7)
	}
	return m.row(make([]int, n)...)
}

// rows: a dynamic block's beginning, with these lengths.
func (m maker) rows(last int, literals, distances []int) maker {
	m.t.Helper()
	return m.evenly(last, len(literals)-257, len(distances)-1).row(literals...).row(distances...)
}

// upTo256: lengths of literals: the first ones, and that of the symbol 256.
func upTo256(of256 int, first ...int) []int {
	l := make([]int, 257)
	copy(l, first)
	l[256] = of256
	return l
}

func inflates(t *testing.T, b []byte, most int, want string, used int) {
	t.Helper()
	if out, n, e := Inflate(b, most); string(out) != want || n != used || e != api.OK {
		t.Errorf("% .60x, at most %d: %.60q (%d), %d, %d, not %.60q (%d), %d", b, most, out, len(out), n, e, want, len(want), used)
	}
}

func refuses(t *testing.T, b []byte, most int, want api.Errno) {
	t.Helper()
	if out, n, e := Inflate(b, most); len(out) != 0 || n != 0 || e != want {
		t.Errorf("% .60x, at most %d: %.60q, %d, %d, not %d", b, most, out, n, e, want)
	}
	if l, e := Blocks(b, most); len(l) != 0 || e != want {
		t.Errorf("Blocks of % .60x, at most %d: %v, %d, not %d", b, most, l, e, want)
	}
}

// is: the whole stream is this text, and needs all of itself.
func (m maker) is(want string) {
	m.t.Helper()
	b := m.Bytes()
	inflates(m.t, b, len(want), want, len(b))
	inflates(m.t, append(m.Bytes(), 7, 255, 0), api.MaxBytes, want, len(b))
	if len(want) > 0 {
		refuses(m.t, b, len(want)-1, api.ErrSize)
	}
	refuses(m.t, b[:len(b)-1], api.MaxBytes, api.ErrEnd)
}

// fails: the error comes up with what is there, and whatever comes behind it.
func (m maker) fails(most int, want api.Errno) {
	m.t.Helper()
	refuses(m.t, m.Bytes(), most, want)
	refuses(m.t, append(m.Bytes(), make([]byte, 40)...), most, want)
	refuses(m.t, append(m.Bytes(), bytes.Repeat([]byte{255}, 40)...), most, want)
}

// ends: there is too little of it.
func (m maker) ends() {
	m.t.Helper()
	refuses(m.t, m.Bytes(), api.MaxBytes, api.ErrEnd)
}

// a: so many letters.
func a(n int) string { return strings.Repeat("a", n) }

// someText: of few letters or of many, with copies of what stands ahead.
func someText(r *rand.Rand, size int) string {
	letters := 1 + r.Intn(1<<r.Intn(9))
	b := make([]byte, 0, size)
	for len(b) < size {
		if n := 1 + r.Intn(300); r.Intn(4) == 0 && n < len(b) {
			from := r.Intn(len(b) - n)
			b = append(b, b[from:from+n]...)
		} else {
			b = append(b, byte(r.Intn(letters)))
		}
	}
	return string(b[:size])
}

// squeezed: texts by the library's compressor, which is flushed between them, or not.
func squeezed(t *testing.T, level int, flushed bool, texts ...string) []byte {
	t.Helper()
	var to bytes.Buffer
	w, err := flate.NewWriter(&to, level)
	if err != nil {
		t.Fatal(err)
	}
	for _, text := range texts {
		w.Write([]byte(text))
		if flushed {
			w.Flush()
		}
	}
	if err := w.Close(); err != nil {
		t.Fatal(err)
	}
	return to.Bytes()
}

// sample: a whole stream, and what it is.
type sample struct{ stream, text string }

// samples: of all kinds of blocks.
func samples(t *testing.T) []sample {
	t.Helper()
	by := map[string]string{
		"\x03\x00":                              "",
		"\x01\x00\x00\xff\xff":                  "",
		"\x01\x03\x00\xfc\xffabc":               "abc",
		"\x4b\x4c\x4a\x06\x00":                  "abc",
		"\x00\x01\x00\xfe\xffa\x4b\x04\x01\x00": "aaaaaa",
	}
	r := rand.New(rand.NewSource(7))
	for level := -2; level < 10; level++ {
		for _, size := range []int{0, 1, 30, 700, 3000} {
			one, two := someText(r, size), someText(r, size/2)
			by[string(squeezed(t, level, size%20 == 0, one, two))] = one + two
		}
	}
	mixed := begin(t).stored(0, "abcd").block(0, 1).text("xyz").again(5, 7).fixed(256)
	mixed.rows(1, upTo256(2, 0, 1, 2), []int{1}).symbols(upTo256(2, 0, 1, 2), 1, 2, 1, 256)
	by[string(mixed.Bytes())] = "abcdxyzabcdx\x01\x02\x01"
	var l []sample
	for _, s := range slices.Sorted(maps.Keys(by)) {
		l = append(l, sample{s, by[s]})
	}
	return l
}

// mutants: samples with bits turned, and bytes left away or put in.
func mutants(t *testing.T, r *rand.Rand, each int, try func(b []byte)) {
	t.Helper()
	for _, s := range samples(t) {
		for range each {
			b := []byte(s.stream)
			for range 1 + r.Intn(3) {
				b = mutant(r, b)
			}
			try(b)
		}
	}
}

// mutant: most faults fall upon the beginning, where the heads stand.
func mutant(r *rand.Rand, b []byte) []byte {
	k := r.Intn(len(b) + 1)
	if r.Intn(2) == 0 {
		k = min(k, r.Intn(40))
	}
	switch kind := r.Intn(8); {
	case kind == 0 || k == len(b):
		return slices.Insert(b, k, byte(r.Intn(256)))
	case kind == 1:
		return slices.Delete(b, k, k+1)
	case kind == 2:
		b[k] = byte(r.Intn(256))
	default:
		b[k] ^= 1 << r.Intn(8)
	}
	return b
}
