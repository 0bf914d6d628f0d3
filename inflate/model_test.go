package inflate

import (
	"bytes"
	"compress/flate"
	"io"
	"math/rand"
	"slices"
	"testing"

	"gatehouse/api"
)

// model: the chapter once more, without the layers below: numbers and codes bit by bit out of a row of bits, and the first error stays.
type model struct {
	in     []byte
	place  int // of the next bit
	most   int
	out    []byte
	blocks []Block
	e      api.Errno
}

func (m *model) fail(e api.Errno) {
	if m.e == api.OK {
		m.e = e
	}
}

func (m *model) number(bits int) int {
	if m.e == api.OK && bits > 8*len(m.in)-m.place {
		m.e = api.ErrEnd
	}
	if m.e != api.OK {
		return 0
	}
	n := 0
	for k := range bits {
		n += int(m.in[m.place/8]>>(m.place%8)&1) << k
		m.place++
	}
	return n
}

// symbol: how many codes of each length there are tells how far those of the next one lie from the first.
func (m *model) symbol(lengths []int) int {
	var counts [16]int
	for _, l := range lengths {
		counts[l]++
	}
	if counts[0] == len(lengths) {
		m.fail(api.ErrCode)
	}
	code, first := 0, 0
	for length := 1; length < 16; length++ {
		code += m.number(1)
		if m.e != api.OK {
			return 0
		}
		if code-first < counts[length] {
			return nth(lengths, length, code-first)
		}
		first = 2 * (first + counts[length])
		code *= 2
	}
	m.fail(api.ErrCode)
	return 0
}

func nth(lengths []int, length, n int) int {
	for s, l := range lengths {
		if l == length {
			if n == 0 {
				return s
			}
			n--
		}
	}
	return -1
}

func (m *model) room(n int) {
	if len(m.out)+n > m.most {
		m.fail(api.ErrSize)
	}
}

func weight(lengths []int) (sum, codes int) {
	for _, l := range lengths {
		if l > 0 {
			sum += 1 << (15 - l)
			codes++
		}
	}
	return sum, codes
}

func (m *model) run() {
	for last := 0; last == 0 && m.e == api.OK; {
		last = m.number(1)
		kind := m.number(2)
		from := len(m.out)
		switch {
		case m.e != api.OK:
		case kind == 0:
			m.stored()
		case kind == 1:
			l := slices.Concat(slices.Repeat([]int{8}, 144), slices.Repeat([]int{9}, 112), slices.Repeat([]int{7}, 24), slices.Repeat([]int{8}, 8))
			m.coded(l, slices.Repeat([]int{5}, 32))
		case kind == 2:
			m.dynamic()
		default:
			m.fail(api.ErrBlock)
		}
		m.blocks = append(m.blocks, Block{kind, len(m.out) - from})
	}
}

func (m *model) stored() {
	for m.place%8 > 0 {
		m.place++
	}
	n := m.number(16)
	if turned := m.number(16); n^turned != 0xffff {
		m.fail(api.ErrBlock)
	}
	m.room(n)
	if m.place/8+n > len(m.in) {
		m.fail(api.ErrEnd)
	}
	if m.e == api.OK {
		m.out = append(m.out, m.in[m.place/8:][:n]...)
		m.place += 8 * n
	}
}

func (m *model) dynamic() {
	h := m.number(5)
	d := m.number(5)
	c := m.number(4)
	if h > 29 || d > 29 {
		m.fail(api.ErrBlock)
	}
	told := make([]int, 19)
	for k, s := range []int{16, 17, 18, 0, 8, 7, 9, 6, 10, 5, 11, 4, 12, 3, 13, 2, 14, 1, 15} {
		if k < c+4 {
			told[s] = m.number(3)
		}
	}
	if sum, _ := weight(told); sum != 32768 {
		m.fail(api.ErrCode)
	}
	var row []int
	for len(row) < h+257+d+1 && m.e == api.OK {
		switch s := m.symbol(told); {
		case s < 16:
			row = append(row, s)
		case s == 16:
			n := 3 + m.number(2)
			if len(row) == 0 {
				m.fail(api.ErrCode)
				return
			}
			row = append(row, slices.Repeat(row[len(row)-1:], n)...)
		case s == 17:
			row = append(row, make([]int, 3+m.number(3))...)
		default:
			row = append(row, make([]int, 11+m.number(7))...)
		}
	}
	if len(row) != h+257+d+1 {
		m.fail(api.ErrCode)
	}
	if m.e != api.OK {
		return
	}
	literals, distances := row[:h+257], row[h+257:]
	for _, l := range [][]int{literals, distances} {
		if sum, codes := weight(l); sum != 32768 && codes != 0 && (codes != 1 || sum != 16384) {
			m.fail(api.ErrCode)
		}
	}
	if literals[256] == 0 {
		m.fail(api.ErrCode)
	}
	m.coded(literals, distances)
}

func (m *model) coded(literals, distances []int) {
	for m.e == api.OK {
		s := m.symbol(literals)
		switch {
		case m.e != api.OK || s == 256:
			return
		case s < 256:
			m.room(1)
			m.out = append(m.out, byte(s))
		default:
			m.copied(s, distances)
		}
	}
}

func (m *model) copied(s int, distances []int) {
	lengths := []int{3, 4, 5, 6, 7, 8, 9, 10, 11, 13, 15, 17, 19, 23, 27, 31, 35, 43, 51, 59, 67, 83, 99, 115, 131, 163, 195, 227, 258}
	extra := []int{0, 0, 0, 0, 0, 0, 0, 0, 1, 1, 1, 1, 2, 2, 2, 2, 3, 3, 3, 3, 4, 4, 4, 4, 5, 5, 5, 5, 0}
	far := []int{1, 2, 3, 4, 5, 7, 9, 13, 17, 25, 33, 49, 65, 97, 129, 193, 257, 385, 513, 769, 1025, 1537, 2049, 3073, 4097, 6145, 8193, 12289, 16385, 24577}
	if s > 285 {
		m.fail(api.ErrCode)
		return
	}
	length := lengths[s-257] + m.number(extra[s-257])
	d := m.symbol(distances)
	if d > 29 {
		m.fail(api.ErrCode)
		return
	}
	dist := far[d] + m.number(max(0, d/2-1))
	if dist > len(m.out) {
		m.fail(api.ErrBlock)
	}
	m.room(length)
	for k := 0; k < length && m.e == api.OK; k++ {
		m.out = append(m.out, m.out[len(m.out)-dist])
	}
}

// compare: the program with the model; and the library reads whatever the program does.
func compare(t *testing.T, b []byte, most int) api.Errno {
	t.Helper()
	before := slices.Clone(b)
	m := &model{in: b, most: most}
	m.run()
	if m.e != api.OK {
		m.out, m.place, m.blocks = nil, 0, nil
	}
	out, used, e := Inflate(b, most)
	if !bytes.Equal(out, m.out) || used != (m.place+7)/8 || e != m.e {
		t.Fatalf("% x, at most %d: %d bytes, %d, %d, not %d, %d, %d", b, most, len(out), used, e, len(m.out), (m.place+7)/8, m.e)
	}
	if l, f := Blocks(b, most); !slices.Equal(l, m.blocks) || f != m.e {
		t.Fatalf("% x, at most %d: %v, %d, not %v, %d", b, most, l, f, m.blocks, m.e)
	}
	if e == api.OK {
		if theirs, err := io.ReadAll(flate.NewReader(bytes.NewReader(b))); err != nil || !bytes.Equal(theirs, out) {
			t.Fatalf("% x: the library: %d bytes, %v, not %d", b, len(theirs), err, len(out))
		}
	}
	if !bytes.Equal(b, before) {
		t.Fatalf("% x is changed", before)
	}
	return e
}

func TestP502SomeBytes(t *testing.T) {
	r := rand.New(rand.NewSource(13))
	for range 20000 {
		b := make([]byte, r.Intn(60))
		for k := range b {
			b[k] = byte(r.Intn(256)) & byte(r.Intn(256)|r.Intn(256))
		}
		compare(t, b, r.Intn(200))
	}
	for first := range 256 {
		for second := range 32 {
			compare(t, []byte{byte(first), byte(first + 8*second)}, 1)
		}
	}
}

func TestP502Mutants(t *testing.T) {
	r := rand.New(rand.NewSource(14))
	seen := map[api.Errno]int{}
	mutants(t, r, 200, func(b []byte) { seen[compare(t, b, r.Intn(1<<r.Intn(14)))]++ })
	for _, e := range []api.Errno{api.OK, api.ErrSize, api.ErrEnd, api.ErrCode, api.ErrBlock} {
		if seen[e] < 20 {
			t.Errorf("%d came up just %d times", e, seen[e])
		}
	}
}

func TestP502Samples(t *testing.T) {
	for _, s := range samples(t) {
		for _, most := range []int{0, len(s.text) / 2, len(s.text), api.MaxBytes} {
			compare(t, []byte(s.stream), most)
		}
	}
}

// The greatest texts, by all levels of the library.
func TestP502Great(t *testing.T) {
	r := rand.New(rand.NewSource(15))
	for level := -2; level < 10; level++ {
		text := someText(r, api.MaxBytes-2000)
		b := squeezed(t, level, level%2 == 0, text[:len(text)/3], text[len(text)/3:])
		inflates(t, b, len(text), text, len(b))
		refuses(t, b, len(text)-1, api.ErrSize)
		refuses(t, b[:len(b)-1], len(text), api.ErrEnd)
	}
}
