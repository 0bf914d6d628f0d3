package lz

import (
	"bytes"
	"math"
	"math/rand"
	"slices"
	"strings"
	"testing"

	"gatehouse/api"
)

func literals(s string) []Piece {
	var l []Piece
	for _, c := range []byte(s) {
		l = append(l, Piece{Byte: c})
	}
	return l
}

func copied(length, dist int) []Piece { return []Piece{{Len: length, Dist: dist}} }

// pieces of a text that must have an answer.
func pieces(t *testing.T, b []byte, window, depth int) []Piece {
	t.Helper()
	l, e := Pieces(b, window, depth)
	if e != api.OK {
		t.Fatalf("Pieces of %d bytes, %d, %d: %d", len(b), window, depth, e)
	}
	return l
}

func parted(t *testing.T, s string, window, depth int, want ...[]Piece) {
	t.Helper()
	same(t, pieces(t, []byte(s), window, depth), slices.Concat(want...))
}

// same tells the first difference alone: the lists may be long.
func same(t *testing.T, l, want []Piece) {
	t.Helper()
	k := 0
	for k < min(len(l), len(want)) && l[k] == want[k] {
		k++
	}
	if k < max(len(l), len(want)) {
		t.Errorf("%d pieces, not %d: from the one of number %d on %v, not %v", len(l), len(want), k, l[k:min(k+3, len(l))], want[k:min(k+3, len(want))])
	}
}

// filler: bytes above 127, no three of which stand twice.
func filler(n int) string {
	var b []byte
	for i := 0; len(b) < n; i++ {
		b = append(b, byte(128+i%32), byte(160+i/32%32), byte(192+i/1024))
	}
	return string(b[:n])
}

func TestP402Pieces(t *testing.T) {
	parted(t, "abcabcabcd", 32768, 16, literals("abc"), copied(6, 3), literals("d"))
	parted(t, "", 1, 1)
	parted(t, "a", 32768, 16, literals("a"))
	parted(t, "abcd", 32768, 16, literals("abcd"))
	parted(t, "aaaa", 32768, 16, literals("a"), copied(3, 1))
	parted(t, "aaa", 32768, 16, literals("aaa"))
	parted(t, "ababa", 32768, 16, literals("ab"), copied(3, 2))
	parted(t, "abc-abd+abc", 32768, 16, literals("abc-abd+"), copied(3, 8))
	parted(t, "\x00\x00\x00\x00\xff\xff\xff\xff\xff", 32768, 16, literals("\x00"), copied(3, 1), literals("\xff"), copied(4, 1))
	if l := pieces(t, nil, 32768, 16); len(l) != 0 {
		t.Errorf("of nothing: %v", l)
	}
}

func TestP402NumbersThatMayNotBe(t *testing.T) {
	great := make([]byte, api.MaxBytes+1)
	wrong := func(want api.Errno, b []byte, window, depth int) {
		t.Helper()
		if l, e := Pieces(b, window, depth); len(l) != 0 || e != want {
			t.Errorf("of %d bytes, %d, %d: %d pieces, %d, not %d", len(b), window, depth, len(l), e, want)
		}
	}
	for _, b := range [][]byte{nil, []byte("aaaaaaa"), great} {
		for _, window := range []int{0, -1, 32769, math.MinInt, math.MaxInt} {
			wrong(api.ErrArg, b, window, 1)
			wrong(api.ErrArg, b, window, -1)
		}
		for _, depth := range []int{-1, 4097, math.MinInt, math.MaxInt} {
			wrong(api.ErrArg, b, 1, depth)
			wrong(api.ErrArg, b, 32768, depth)
		}
	}
	for _, window := range []int{1, 32768} {
		for _, depth := range []int{0, 1, 4096} {
			wrong(api.ErrSize, great, window, depth)
			pieces(t, great[1:], window, depth)
		}
	}
}

func TestP402Window(t *testing.T) {
	parted(t, "abcabc", 2, 16, literals("abcabc"))
	parted(t, "abcabc", 3, 16, literals("abc"), copied(3, 3))
	parted(t, "aaaaa", 1, 16, literals("a"), copied(4, 1))
	parted(t, "ababab", 1, 16, literals("ababab"))
	// The place is looked at, not where the copy ends: it reaches into itself.
	parted(t, "abcabcabcabc", 3, 16, literals("abc"), copied(9, 3))
	// The greatest one stands too far off.
	parted(t, "abcde-abc+abcde", 9, 16, literals("abcde-"), copied(3, 6), literals("+"), copied(3, 4), literals("de"))
	parted(t, "abcde-abc+abcde", 10, 16, literals("abcde-"), copied(3, 6), literals("+"), copied(5, 10))
	for _, gap := range []int{100, 1000, 32765} {
		far := "xyz" + filler(gap)
		parted(t, far+"xyz", gap+2, 4096, literals(far+"xyz"))
		parted(t, far+"xyz", gap+3, 4096, literals(far), copied(3, gap+3))
	}
	farther := "xyz" + filler(32766) + "xyz"
	parted(t, farther, 32768, 4096, literals(farther))
}

func TestP402Depth(t *testing.T) {
	parted(t, "aaaaaaa", 32768, 0, literals("aaaaaaa"))
	parted(t, "aaaaaaa", 32768, 1, literals("a"), copied(6, 1))
	s := "abcdef-abcde.abcd:abcdef"
	first := slices.Concat(literals("abcdef-"), copied(5, 7), literals("."))
	parted(t, s, 32768, 1, first, copied(4, 6), literals(":"), copied(4, 5), literals("ef"))
	parted(t, s, 32768, 2, first, copied(4, 6), literals(":"), copied(5, 11), literals("f"))
	parted(t, s, 32768, 3, first, copied(4, 6), literals(":"), copied(6, 18))
	parted(t, s, 32768, 4096, first, copied(4, 6), literals(":"), copied(6, 18))
	// Only candidates count: places with other bytes between them do not.
	parted(t, "abcd"+filler(500)+"abcd", 32768, 1, literals("abcd"+filler(500)), copied(4, 504))
	// The deepest that may be: the greatest one stands behind 4095 others, then behind 4096.
	for others, want := range map[int][]Piece{
		4095: copied(4, 16385),
		4096: slices.Concat(copied(3, 5), literals("X")),
	} {
		l := pieces(t, []byte("abcX"+strings.Repeat("abcd", others)+"!abcX"), 32768, 4096)
		same(t, l[len(l)-len(want):], want)
	}
}

func TestP402NearestOfTheGreatest(t *testing.T) {
	parted(t, "abcd-abcd-abcd", 32768, 16, literals("abcd-"), copied(9, 5))
	parted(t, "abcd1abcd2abcd", 32768, 16, literals("abcd1"), copied(4, 5), literals("2"), copied(4, 5))
	parted(t, "abcd1abce2abcd", 32768, 16, literals("abcd1"), copied(3, 5), literals("e2"), copied(4, 10))
	parted(t, "abcX1abcY2abcZ", 32768, 16, literals("abcX1"), copied(3, 5), literals("Y2"), copied(3, 5), literals("Z"))
	parted(t, "aaaaaa", 32768, 16, literals("a"), copied(5, 1))
}

func TestP402Longest(t *testing.T) {
	for n, want := range map[int][][]Piece{
		258: {literals("a"), copied(257, 1)},
		259: {literals("a"), copied(258, 1)},
		260: {literals("a"), copied(258, 1), literals("a")},
		261: {literals("a"), copied(258, 1), literals("aa")},
		262: {literals("a"), copied(258, 1), copied(3, 1)},
		518: {literals("a"), copied(258, 1), copied(258, 1), literals("a")},
	} {
		parted(t, strings.Repeat("a", n), 32768, 16, want...)
		parted(t, strings.Repeat("a", n), 1, 1, want...)
	}
	row := filler(300)
	parted(t, row+row, 32768, 16, literals(row), copied(258, 300), copied(42, 300))
	// Of two that are longer than 258 the nearest one.
	parted(t, row[:260]+"-"+row[:260]+"+"+row[:260], 32768, 16, literals(row[:260]+"-"),
		copied(258, 261), literals(row[258:260]+"+"), copied(258, 261), literals(row[258:260]))
}

func TestP402End(t *testing.T) {
	parted(t, "abcdeabc", 32768, 16, literals("abcde"), copied(3, 5))
	parted(t, "abcdeab", 32768, 16, literals("abcdeab"))
	parted(t, "abcdea", 32768, 16, literals("abcdea"))
	parted(t, "abcabca", 32768, 16, literals("abc"), copied(4, 3))
	parted(t, "abcabcxab", 32768, 16, literals("abc"), copied(3, 3), literals("xab"))
}

// candidates as the chapter tells them, one place behind the other.
func told(b []byte, place, window, depth int) []int {
	var dists []int
	for d := 1; d <= window && d <= place && len(dists) < depth && place+3 <= len(b); d++ {
		if bytes.Equal(b[place-d:place-d+3], b[place:place+3]) {
			dists = append(dists, d)
		}
	}
	return dists
}

func run(b []byte, place, dist int) int {
	n := 0
	for n < 258 && place+n < len(b) && b[place-dist+n] == b[place+n] {
		n++
	}
	return n
}

func slow(b []byte, window, depth int) []Piece {
	var l []Piece
	for place := 0; place < len(b); {
		p := Piece{}
		for _, d := range told(b, place, window, depth) {
			if n := run(b, place, d); n > p.Len {
				p = Piece{Len: n, Dist: d}
			}
		}
		if p.Len == 0 {
			p.Byte = b[place]
		}
		l = append(l, p)
		place += max(1, p.Len)
	}
	return l
}

// someText: of few letters, with runs and pieces that come again.
func someText(r *rand.Rand, most int) []byte {
	n, letters := r.Intn(most+1), 1+r.Intn(1<<r.Intn(9))
	var b []byte
	for len(b) < n {
		switch r.Intn(20) {
		case 0:
			b = append(b, bytes.Repeat([]byte{byte(r.Intn(letters))}, r.Intn(300))...)
		case 1, 2, 3:
			from := r.Intn(len(b) + 1)
			b = append(b, b[from:min(len(b), from+r.Intn(300))]...)
		default:
			b = append(b, byte(r.Intn(letters)))
		}
	}
	return b[:n]
}

func someWindow(r *rand.Rand) int {
	return []int{1, 2, 3, 1 + r.Intn(40), 1 + r.Intn(1000), 32768}[r.Intn(6)]
}

func TestP402AsTold(t *testing.T) {
	r := rand.New(rand.NewSource(1))
	for range 1500 {
		b, window, depth := someText(r, 1<<r.Intn(12)), someWindow(r), r.Intn(1<<r.Intn(13)+1)
		if same(t, pieces(t, b, window, depth), slow(b, window, depth)); t.Failed() {
			t.Fatalf("of %.300q, %d, %d", b, window, depth)
		}
	}
}

func TestP406WithinTheWindow(t *testing.T) {
	r := rand.New(rand.NewSource(2))
	copies := 0
	for range 1000 {
		b, window := someText(r, 3000), someWindow(r)
		place := 0
		for _, p := range pieces(t, b, window, r.Intn(20)) {
			switch {
			case p.Len == 0 && p.Dist == 0:
				place++
			case p.Len >= 3 && p.Len <= 258 && p.Dist >= 1 && p.Dist <= window && p.Dist <= place && p.Byte == 0:
				place += p.Len
				copies++
			default:
				t.Fatalf("%v at %d, window %d", p, place, window)
			}
		}
		if place != len(b) {
			t.Fatalf("%d bytes of %d", place, len(b))
		}
	}
	if copies < 10000 {
		t.Errorf("only %d copies", copies)
	}
}

func TestP407Greedy(t *testing.T) {
	r := rand.New(rand.NewSource(3))
	for range 200 {
		b, window := someText(r, 1500), someWindow(r)
		place := 0
		for _, p := range pieces(t, b, window, 4096) {
			for d := 1; d <= min(window, place); d++ {
				if n := run(b, place, d); n > max(p.Len, 2) {
					t.Fatalf("%.300q, window %d: %v at %d, but %d may be copied from %d back", b, window, p, place, n, d)
				}
			}
			place += max(1, p.Len)
		}
	}
}

func TestP401PiecesShareNothing(t *testing.T) {
	room := []byte("abcabcabcdefgh")
	b := room[:10]
	one, two := pieces(t, b, 32768, 16), pieces(t, b, 32768, 16)
	if string(room) != "abcabcabcdefgh" {
		t.Errorf("what was handed in is changed: %q", room)
	}
	clear(room)
	want := slices.Concat(literals("abc"), copied(6, 3), literals("d"))
	if !slices.Equal(one, want) {
		t.Errorf("the answer keeps what was handed in: %v", one)
	}
	clear(one[:cap(one)])
	if !slices.Equal(two, want) {
		t.Errorf("two answers share: %v", two)
	}
	if three := pieces(t, []byte("abcabcabcd"), 32768, 16); !slices.Equal(three, want) {
		t.Errorf("answers change: %v", three)
	}
}

// Texts as great as may be, in which much could be looked for, end too.
func TestP401GreatTexts(t *testing.T) {
	r := rand.New(rand.NewSource(4))
	for name, b := range map[string][]byte{
		"one letter": make([]byte, api.MaxBytes),
		"all bytes":  someBytes(r, api.MaxBytes, 256),
		"a mixture":  someText(r, api.MaxBytes),
	} {
		l := pieces(t, b, 32768, 4096)
		if back, e := Expand(l, len(b)); !bytes.Equal(back, b) || e != api.OK {
			t.Errorf("%s: %d bytes, %d", name, len(back), e)
		}
	}
}

func someBytes(r *rand.Rand, n, letters int) []byte {
	b := make([]byte, n)
	for i := range b {
		b[i] = byte(r.Intn(letters))
	}
	return b
}
