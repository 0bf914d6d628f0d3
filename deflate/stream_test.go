package deflate

import (
	"bytes"
	"math"
	"math/rand"
	"slices"
	"testing"

	"gatehouse/api"
)

func newStream(t *testing.T, level int) *Stream {
	t.Helper()
	s, e := NewStream(level)
	if s == nil || e != api.OK {
		t.Fatal(s, e)
	}
	return s
}

func wrote(t *testing.T, s *Stream, text string, want api.Errno) {
	t.Helper()
	if e := s.Write([]byte(text)); e != want {
		t.Errorf("Write of %.60q: %d, not %d", text, e, want)
	}
}

func flushed(t *testing.T, s *Stream, e api.Errno, want ...byte) {
	t.Helper()
	if b, f := s.Flush(); !bytes.Equal(b, want) || f != e {
		t.Errorf("Flush: %d, %d, not %d, %d", b, f, want, e)
	}
}

func closed(t *testing.T, s *Stream, e api.Errno, want ...byte) {
	t.Helper()
	if b, f := s.Close(); !bytes.Equal(b, want) || f != e {
		t.Errorf("Close: %d, %d, not %d, %d", b, f, want, e)
	}
}

func TestP603Examples(t *testing.T) {
	s := newStream(t, 6)
	wrote(t, s, "abc", api.OK)
	flushed(t, s, api.OK, 74, 76, 74, 6, 0, 0, 0, 255, 255)
	flushed(t, s, api.OK)
	closed(t, s, api.OK, 3, 0)

	s = newStream(t, 6)
	wrote(t, s, "a", api.OK)
	wrote(t, s, "", api.OK)
	wrote(t, s, "bc", api.OK)
	closed(t, s, api.OK, 75, 76, 74, 6, 0)

	s = newStream(t, 0)
	wrote(t, s, "abc", api.OK)
	flushed(t, s, api.OK, 0, 3, 0, 252, 255, 97, 98, 99, 0, 0, 0, 255, 255)
	wrote(t, s, "d", api.OK)
	flushed(t, s, api.OK, 0, 1, 0, 254, 255, 100, 0, 0, 0, 255, 255)
	closed(t, s, api.OK, 1, 0, 0, 255, 255)
}

func TestP603Nothing(t *testing.T) {
	s := newStream(t, 6)
	flushed(t, s, api.OK)
	wrote(t, s, "", api.OK)
	if e := s.Write(nil); e != api.OK {
		t.Error(e)
	}
	flushed(t, s, api.OK)
	closed(t, s, api.OK, 3, 0)
	closed(t, newStream(t, 0), api.OK, 1, 0, 0, 255, 255)
}

func TestP603Levels(t *testing.T) {
	for _, level := range []int{-1, 10, 1 << 33, math.MinInt, math.MaxInt} {
		if s, e := NewStream(level); s != nil || e != api.ErrArg {
			t.Errorf("level %d: %v, %d", level, s, e)
		}
	}
	text := bytes.Repeat([]byte("one, two, three and more. "), 40)
	for level := range 10 {
		s := newStream(t, level)
		wrote(t, s, string(text), api.OK)
		want, _ := Deflate(text, level)
		closed(t, s, api.OK, want...)
	}
}

func TestP603Closed(t *testing.T) {
	s := newStream(t, 6)
	wrote(t, s, "abc", api.OK)
	closed(t, s, api.OK, 75, 76, 74, 6, 0)
	for range 2 {
		wrote(t, s, "d", api.ErrClosed)
		wrote(t, s, "", api.ErrClosed)
		wrote(t, s, string(make([]byte, api.MaxBytes)), api.ErrClosed)
		flushed(t, s, api.ErrClosed)
		closed(t, s, api.ErrClosed)
	}
}

func TestP603TooMuch(t *testing.T) {
	most := string(make([]byte, api.MaxBytes/2))
	s := newStream(t, 1)
	wrote(t, s, most+"a", api.ErrSize)
	wrote(t, s, "abc", api.OK)
	wrote(t, s, most[2:], api.ErrSize)
	want, _ := Deflate([]byte("abc"), 1)
	closed(t, s, api.OK, want...)

	s = newStream(t, 1)
	wrote(t, s, most, api.OK)
	wrote(t, s, "", api.OK)
	wrote(t, s, "a", api.ErrSize)
	want, _ = Deflate([]byte(most), 1)
	closed(t, s, api.OK, want...)

	// What was flushed counts, too.
	s = newStream(t, 1)
	wrote(t, s, most[1:], api.OK)
	if b, e := s.Flush(); len(b) == 0 || e != api.OK {
		t.Error(len(b), e)
	}
	wrote(t, s, "ab", api.ErrSize)
	flushed(t, s, api.OK)
	wrote(t, s, "a", api.OK)
	wrote(t, s, "b", api.ErrSize)
	want, _ = Deflate([]byte("a"), 1)
	closed(t, s, api.OK, want...)
}

func TestP603Nobody(t *testing.T) {
	copied := *newStream(t, 6)
	wrote(t, &copied, "abc", api.ErrArg)
	for _, s := range []*Stream{nil, {}, new(Stream), &copied} {
		wrote(t, s, "abc", api.ErrArg)
		wrote(t, s, string(make([]byte, api.MaxBytes)), api.ErrArg)
		flushed(t, s, api.ErrArg)
		closed(t, s, api.ErrArg)
		closed(t, s, api.ErrArg)
	}
}

// Pieces do not look at bytes that were flushed ahead, but at those that were written ahead.
func TestP603Ahead(t *testing.T) {
	s := newStream(t, 9)
	wrote(t, s, "gatehouse", api.OK)
	one, _ := s.Flush()
	wrote(t, s, "gatehouse", api.OK)
	two, _ := s.Flush()
	if !bytes.Equal(one, two) {
		t.Errorf("% x, then % x", one, two)
	}
	wrote(t, s, "gate", api.OK)
	wrote(t, s, "housegatehouse", api.OK)
	want, _ := Deflate([]byte("gatehousegatehouse"), 9)
	closed(t, s, api.OK, want...)
}

// Streams at random, held against the model: whatever pieces the bytes come in.
func TestP603Some(t *testing.T) {
	r := rand.New(rand.NewSource(41))
	for round := range 150 {
		level := r.Intn(10)
		s := newStream(t, level)
		var waiting []byte
		for range r.Intn(20) {
			if r.Intn(4) > 0 {
				b := someText(r, r.Intn(1<<r.Intn(8+round%8)))
				wrote(t, s, string(b), api.OK)
				waiting = append(waiting, b...)
				continue
			}
			m := model{}
			if len(waiting) > 0 {
				m, _ = m.blocks(waiting, level, 0)
				m = m.stored(0, nil)
			}
			waiting = nil
			flushed(t, s, api.OK, m.bytes()...)
		}
		m, _ := model{}.blocks(waiting, level, 1)
		closed(t, s, api.OK, m.bytes()...)
		closed(t, s, api.ErrClosed)
	}
}

func TestP605Flushed(t *testing.T) {
	r := rand.New(rand.NewSource(42))
	for round := range 120 {
		s := newStream(t, round%10)
		var text, all []byte
		for range r.Intn(12) {
			b := someText(r, r.Intn(1<<r.Intn(16)))
			wrote(t, s, string(b), api.OK)
			text = append(text, b...)
			if r.Intn(2) == 0 {
				more, e := s.Flush()
				if e != api.OK {
					t.Fatal(e)
				}
				all = append(all, more...)
				readBack(t, append(slices.Clone(all), 3, 0), text)
			}
		}
		more, e := s.Close()
		if e != api.OK {
			t.Fatal(e)
		}
		readBack(t, append(all, more...), text)
	}
}

// Blocks of many sizes, more than one in a Flush.
func TestP605GreatFlushes(t *testing.T) {
	for level := range 10 {
		s := newStream(t, level)
		text := slices.Concat(plain(20000), make([]byte, 100000), plain(30000))
		var all []byte
		for _, part := range [][]byte{text[:8192], text[8192:90000], text[90000:]} {
			wrote(t, s, string(part), api.OK)
			more, _ := s.Flush()
			all = append(all, more...)
		}
		readBack(t, append(slices.Clone(all), 3, 0), text)
		more, _ := s.Close()
		readBack(t, append(all, more...), text)
	}
}

// What was handed in is the caller's, what is answered, too.
func TestP601Streams(t *testing.T) {
	s := newStream(t, 6)
	room := []byte("abcdef")
	if e := s.Write(room[:3]); e != api.OK || string(room) != "abcdef" {
		t.Error(e, room)
	}
	clear(room)
	one, _ := s.Flush()
	want := []byte{74, 76, 74, 6, 0, 0, 0, 255, 255}
	if !bytes.Equal(one, want) {
		t.Errorf("% x", one)
	}
	for k := range one[:cap(one)] {
		one[:cap(one)][k] = 77
	}
	wrote(t, s, "abc", api.OK)
	flushed(t, s, api.OK, want...)
	wrote(t, s, "abc", api.OK)
	closed(t, s, api.OK, 75, 76, 74, 6, 0)

	// One goes on without looking at the other.
	s, other := newStream(t, 6), newStream(t, 6)
	wrote(t, s, "abc", api.OK)
	wrote(t, other, "xyz", api.OK)
	closed(t, s, api.OK, 75, 76, 74, 6, 0)
	theirs, _ := Deflate([]byte("xyz"), 6)
	closed(t, other, api.OK, theirs...)
}
