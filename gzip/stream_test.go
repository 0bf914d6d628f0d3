package gzip

import (
	"bytes"
	"compress/gzip"
	"io"
	"math"
	"math/rand"
	"slices"
	"strings"
	"testing"

	"gatehouse/api"
	"gatehouse/deflate"
)

func newStream(t *testing.T, level int) *Stream {
	t.Helper()
	s, e := NewStream(level)
	if s == nil || e != api.OK {
		t.Fatal(s, e)
	}
	return s
}

func wrote(t *testing.T, s *Stream, text string, want api.Errno) {
	t.Helper()
	if e := s.Write([]byte(text)); e != want {
		t.Errorf("Write of %.60q: %d, not %d", text, e, want)
	}
}

func flushed(t *testing.T, s *Stream, e api.Errno, want ...byte) {
	t.Helper()
	if b, f := s.Flush(); !bytes.Equal(b, want) || f != e {
		t.Errorf("Flush: %d, %d, not %d, %d", b, f, want, e)
	}
}

func closed(t *testing.T, s *Stream, e api.Errno, want ...byte) {
	t.Helper()
	if b, f := s.Close(); !bytes.Equal(b, want) || f != e {
		t.Errorf("Close: %d, %d, not %d, %d", b, f, want, e)
	}
}

func TestP705Examples(t *testing.T) {
	s := newStream(t, 6)
	wrote(t, s, "abc", api.OK)
	flushed(t, s, api.OK, 31, 139, 8, 0, 0, 0, 0, 0, 0, 255, 74, 76, 74, 6, 0, 0, 0, 255, 255)
	flushed(t, s, api.OK)
	closed(t, s, api.OK, 3, 0, 194, 65, 36, 53, 3, 0, 0, 0)

	s = newStream(t, 6)
	wrote(t, s, "a", api.OK)
	wrote(t, s, "", api.OK)
	wrote(t, s, "bc", api.OK)
	closed(t, s, api.OK, packed(t, "abc", 6)...)

	s = newStream(t, 0)
	wrote(t, s, "ab", api.OK)
	flushed(t, s, api.OK, 31, 139, 8, 0, 0, 0, 0, 0, 0, 255, 0, 2, 0, 253, 255, 97, 98, 0, 0, 0, 255, 255)
	wrote(t, s, "c", api.OK)
	flushed(t, s, api.OK, 0, 1, 0, 254, 255, 99, 0, 0, 0, 255, 255)
	closed(t, s, api.OK, 1, 0, 0, 255, 255, 194, 65, 36, 53, 3, 0, 0, 0)
}

// The head comes with the first bytes, not with the first answer.
func TestP705Nothing(t *testing.T) {
	s := newStream(t, 6)
	flushed(t, s, api.OK)
	wrote(t, s, "", api.OK)
	if e := s.Write(nil); e != api.OK {
		t.Error(e)
	}
	flushed(t, s, api.OK)
	closed(t, s, api.OK, 31, 139, 8, 0, 0, 0, 0, 0, 0, 255, 3, 0, 0, 0, 0, 0, 0, 0, 0, 0)

	s = newStream(t, 6)
	flushed(t, s, api.OK)
	wrote(t, s, "abc", api.OK)
	flushed(t, s, api.OK, 31, 139, 8, 0, 0, 0, 0, 0, 0, 255, 74, 76, 74, 6, 0, 0, 0, 255, 255)
	closed(t, s, api.OK, 3, 0, 194, 65, 36, 53, 3, 0, 0, 0)
	closed(t, newStream(t, 0), api.OK, packed(t, "", 0)...)
}

func TestP705Levels(t *testing.T) {
	for _, level := range []int{-1, 10, 1 << 33, math.MinInt, math.MaxInt} {
		if s, e := NewStream(level); s != nil || e != api.ErrArg {
			t.Errorf("level %d: %v, %d", level, s, e)
		}
	}
	text := strings.Repeat("one, two, three and more. ", 40)
	for level := range 10 {
		s := newStream(t, level)
		wrote(t, s, text, api.OK)
		closed(t, s, api.OK, packed(t, text, level)...)
	}
}

func TestP705Closed(t *testing.T) {
	s := newStream(t, 6)
	wrote(t, s, "abc", api.OK)
	closed(t, s, api.OK, packed(t, "abc", 6)...)
	for range 2 {
		wrote(t, s, "d", api.ErrClosed)
		wrote(t, s, "", api.ErrClosed)
		wrote(t, s, string(make([]byte, api.MaxBytes)), api.ErrClosed)
		flushed(t, s, api.ErrClosed)
		closed(t, s, api.ErrClosed)
	}
}

// What was refused counts neither for the sum nor for the size.
func TestP705TooMuch(t *testing.T) {
	most := string(make([]byte, api.MaxBytes/2))
	s := newStream(t, 1)
	wrote(t, s, most+"a", api.ErrSize)
	wrote(t, s, "abc", api.OK)
	wrote(t, s, most[2:], api.ErrSize)
	closed(t, s, api.OK, packed(t, "abc", 1)...)

	s = newStream(t, 1)
	wrote(t, s, most, api.OK)
	wrote(t, s, "", api.OK)
	wrote(t, s, "a", api.ErrSize)
	closed(t, s, api.OK, packed(t, most, 1)...)

	s = newStream(t, 1)
	wrote(t, s, most[1:], api.OK)
	one, _ := s.Flush()
	wrote(t, s, "ab", api.ErrSize)
	flushed(t, s, api.OK)
	wrote(t, s, "a", api.OK)
	two, _ := s.Close()
	unpacks(t, slices.Concat(one, two), most[1:]+"a", 1)
}

func TestP705Nobody(t *testing.T) {
	copied := *newStream(t, 6)
	inside, _ := deflate.NewStream(6)
	for _, s := range []*Stream{nil, {}, new(Stream), &copied, {inner: inside}} {
		wrote(t, s, "abc", api.ErrArg)
		wrote(t, s, string(make([]byte, api.MaxBytes)), api.ErrArg)
		flushed(t, s, api.ErrArg)
		closed(t, s, api.ErrArg)
		closed(t, s, api.ErrArg)
	}
	if b, e := inside.Flush(); len(b) != 0 || e != api.OK {
		t.Error("something was put", b, e)
	}
}

// A copy takes nothing of the first one away.
func TestP705Copied(t *testing.T) {
	s := newStream(t, 6)
	wrote(t, s, "ab", api.OK)
	copied := *s
	wrote(t, &copied, "x", api.ErrArg)
	flushed(t, &copied, api.ErrArg)
	closed(t, &copied, api.ErrArg)
	wrote(t, s, "c", api.OK)
	closed(t, s, api.OK, packed(t, "abc", 6)...)
}

// Writes, Flushes and a Close at random: the blocks are deflate's, the head ahead of the first ones, the end behind the last ones.
func TestP705SomeStreams(t *testing.T) {
	r := rand.New(rand.NewSource(1))
	for k := range 300 {
		s := newStream(t, k%10)
		blocks, _ := deflate.NewStream(k % 10)
		var got, want []byte
		text := ""
		for range r.Intn(12) {
			if r.Intn(3) == 0 {
				b, e := blocks.Flush()
				if len(b) > 0 && len(want) == 0 {
					b = append([]byte(plainHead(0)), b...)
				}
				flushed(t, s, e, b...)
				got, want = append(got, b...), append(want, b...)
				continue
			}
			part := someText(r, r.Intn(1<<r.Intn(12)))
			wrote(t, s, part, blocks.Write([]byte(part)))
			text += part
		}
		b, _ := blocks.Close()
		if len(want) == 0 {
			b = append([]byte(plainHead(0)), b...)
		}
		last := withEnd(string(b), text)
		closed(t, s, api.OK, last...)
		unpacks(t, append(got, last...), text, 1)
	}
}

func TestP706Streams(t *testing.T) {
	r := rand.New(rand.NewSource(2))
	for range 100 {
		s := newStream(t, r.Intn(10))
		var b []byte
		text := ""
		for range r.Intn(8) {
			part := someText(r, r.Intn(1<<r.Intn(14)))
			wrote(t, s, part, api.OK)
			text += part
			if r.Intn(2) == 0 {
				some, e := s.Flush()
				if e != api.OK {
					t.Fatal(e)
				}
				b = append(b, some...)
			}
		}
		if len(b) > 0 {
			refuses(t, b, api.ErrEnd)
		}
		some, e := s.Close()
		if e != api.OK {
			t.Fatal(e)
		}
		b = append(b, some...)
		unpacks(t, b, text, 1)
		from, err := gzip.NewReader(bytes.NewReader(b))
		if err != nil {
			t.Fatal(err)
		}
		if got, err := io.ReadAll(from); string(got) != text || err != nil {
			t.Fatalf("%.60x: %.60x, %v", text, got, err)
		}
	}
}

func TestP701Streams(t *testing.T) {
	s, other := newStream(t, 6), newStream(t, 6)
	room := []byte("abcdef")
	if e := s.Write(room[:3]); e != api.OK || string(room) != "abcdef" {
		t.Error(e, room)
	}
	clear(room)
	wrote(t, other, "xyz", api.OK)
	one, e := s.Flush()
	want := []byte{31, 139, 8, 0, 0, 0, 0, 0, 0, 255, 74, 76, 74, 6, 0, 0, 0, 255, 255}
	if !bytes.Equal(one, want) || e != api.OK {
		t.Errorf("% x, %d", one, e)
	}
	clear(one[:cap(one)])
	wrote(t, s, "abc", api.OK)
	two, e := s.Flush()
	if !bytes.Equal(two, want[10:]) || e != api.OK {
		t.Errorf("% x, %d", two, e)
	}
	clear(two[:cap(two)])
	closed(t, s, api.OK, withEnd("\x03\x00", "abcabc")...)
	closed(t, other, api.OK, packed(t, "xyz", 6)...)
	closed(t, s, api.ErrClosed)
}
