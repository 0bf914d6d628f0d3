package lz

import (
	"bytes"
	"math"
	"math/rand"
	"slices"
	"strings"
	"testing"

	"gatehouse/api"
)

func expanded(t *testing.T, want string, most int, l ...[]Piece) {
	t.Helper()
	if b, e := Expand(slices.Concat(l...), most); string(b) != want || e != api.OK {
		t.Errorf("at most %d: %.40q, %d, not %.40q", most, b, e, want)
	}
}

func refused(t *testing.T, want api.Errno, most int, l ...[]Piece) {
	t.Helper()
	all := slices.Concat(l...)
	if b, e := Expand(all, most); len(b) != 0 || e != want {
		t.Errorf("at most %d, the last pieces %v: %d bytes, %d, not %d", most, all[max(0, len(all)-2):], len(b), e, want)
	}
}

func TestP403Expand(t *testing.T) {
	expanded(t, "aaaaa", 99, literals("a"), copied(4, 1))
	expanded(t, "aaaaa", 5, literals("a"), copied(4, 1))
	expanded(t, "abcabcabcd", 10, literals("abc"), copied(6, 3), literals("d"))
	expanded(t, "abcdbcd", api.MaxBytes, literals("abcd"), copied(3, 3))
	expanded(t, "abcdabc", 7, literals("abcd"), copied(3, 4))
	expanded(t, "abababa", 7, literals("ab"), copied(5, 2))
	expanded(t, "\x00\xff\x00", 3, literals("\x00\xff\x00"))
	expanded(t, strings.Repeat("a", 259), 259, literals("a"), copied(258, 1))
	expanded(t, "aaaaaaa", 7, literals("a"), copied(3, 1), copied(3, 4))
	row := filler(32768)
	expanded(t, row+row[:3], api.MaxBytes, literals(row), copied(3, 32768))
	expanded(t, row+row[:258], api.MaxBytes, literals(row), copied(258, 32768))
	for _, most := range []int{0, 1, api.MaxBytes} {
		expanded(t, "", most)
		expanded(t, "", most, []Piece{})
	}
}

func TestP403PiecesThatMayNotBe(t *testing.T) {
	long := literals(filler(40000))
	for _, p := range []Piece{
		{Dist: 1}, {Dist: -1}, {Dist: 1, Byte: 7}, {Dist: math.MinInt}, {Dist: math.MaxInt},
		{Len: 1, Dist: 1}, {Len: 2, Dist: 1}, {Len: 259, Dist: 1}, {Len: -1, Dist: 1}, {Len: -3, Dist: 1}, {Len: -1},
		{Len: math.MinInt, Dist: 1}, {Len: math.MaxInt, Dist: 1}, {Len: 1 << 32, Dist: 1}, {Len: 1<<32 + 3, Dist: 1},
		{Len: 3}, {Len: 3, Dist: -1}, {Len: 3, Dist: 32769}, {Len: 258, Dist: 40000},
		{Len: 3, Dist: math.MinInt}, {Len: 3, Dist: math.MaxInt}, {Len: 3, Dist: 1<<32 + 1},
		{Len: 3, Dist: 1, Byte: 7}, {Len: 258, Dist: 1, Byte: 255},
	} {
		refused(t, api.ErrBlock, api.MaxBytes, []Piece{p})
		refused(t, api.ErrBlock, api.MaxBytes, literals("abc"), []Piece{p})
		refused(t, api.ErrBlock, api.MaxBytes, long, []Piece{p})
		refused(t, api.ErrBlock, api.MaxBytes, long, []Piece{p}, literals("abc"))
		refused(t, api.ErrBlock, len(long), long, []Piece{p}) // nor would it fit
		refused(t, api.ErrSize, len(long)-1, long, []Piece{p})
		refused(t, api.ErrArg, -1, []Piece{p})
	}
}

func TestP403DistOfTooFewBytes(t *testing.T) {
	refused(t, api.ErrBlock, 99, copied(3, 1))
	refused(t, api.ErrBlock, 99, literals("a"), copied(3, 2))
	refused(t, api.ErrBlock, 1, literals("a"), copied(3, 2))
	refused(t, api.ErrBlock, 99, literals("a"), copied(3, 1), copied(3, 5))
	expanded(t, "aaaaaaa", 99, literals("a"), copied(3, 1), copied(3, 4))
	refused(t, api.ErrBlock, api.MaxBytes, literals(filler(32767)), copied(3, 32768))
}

func TestP403TooMuch(t *testing.T) {
	for _, most := range []int{-1, math.MinInt, api.MaxBytes + 1, math.MaxInt} {
		refused(t, api.ErrArg, most)
		refused(t, api.ErrArg, most, literals("a"))
	}
	refused(t, api.ErrSize, 0, literals("a"))
	refused(t, api.ErrSize, 1, literals("ab"))
	refused(t, api.ErrSize, 4, literals("a"), copied(4, 1))
	refused(t, api.ErrSize, 1, literals("a"), copied(258, 1))
	refused(t, api.ErrSize, 9, literals("abc"), copied(6, 3), literals("d"))
	// The first one that can't be taken is told, not the worst.
	refused(t, api.ErrSize, 1, literals("ab"), copied(3, 9))
	refused(t, api.ErrBlock, 1, literals("a"), copied(3, 9), literals("b"))

	all := literals("a")
	for range 4064 {
		all = append(all, copied(258, 1)...)
	}
	all = append(all, copied(63, 1)...)
	expanded(t, strings.Repeat("a", api.MaxBytes), api.MaxBytes, all)
	refused(t, api.ErrSize, api.MaxBytes-1, all)
	refused(t, api.ErrSize, api.MaxBytes, all, literals("a"))
	refused(t, api.ErrSize, api.MaxBytes, literals("a"), all)
}

func TestP405ThereAndBack(t *testing.T) {
	r := rand.New(rand.NewSource(5))
	for range 1500 {
		b, window, depth := someText(r, 1<<r.Intn(15)), someWindow(r), r.Intn(1<<r.Intn(13)+1)
		l := pieces(t, b, window, depth)
		for _, most := range []int{len(b), len(b) + 1, api.MaxBytes} {
			if back, e := Expand(l, most); !bytes.Equal(back, b) || e != api.OK {
				t.Fatalf("of %.300q, %d, %d: %.300q, %d", b, window, depth, back, e)
			}
		}
		if len(b) > 0 {
			refused(t, api.ErrSize, len(b)-1, l)
		}
	}
	for depth := range 3 {
		great := someBytes(r, api.MaxBytes, 3)
		if back, e := Expand(pieces(t, great, 32768, depth), api.MaxBytes); !bytes.Equal(back, great) || e != api.OK {
			t.Errorf("depth %d: %d bytes, %d", depth, len(back), e)
		}
	}
}

func TestP401ExpandSharesNothing(t *testing.T) {
	room := slices.Concat(literals("ab"), copied(3, 1), literals("xyz"))
	before := slices.Clone(room)
	one, e := Expand(room[:3], 99)
	two, f := Expand(room[:3], 99)
	if string(one) != "abbbb" || e != api.OK || f != api.OK {
		t.Fatal(one, e, f)
	}
	clear(one[:cap(one)])
	if string(two) != "abbbb" {
		t.Errorf("two answers share: %q", two)
	}
	if !slices.Equal(room, before) {
		t.Errorf("what was handed in is changed: %v", room)
	}
	clear(room)
	if string(two) != "abbbb" {
		t.Errorf("the answer keeps what was handed in: %q", two)
	}
}
